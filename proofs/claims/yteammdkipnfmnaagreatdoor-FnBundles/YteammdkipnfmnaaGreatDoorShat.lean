/- A bundle that is bent. -/
import Derived.Test.YteammdkipnfmnaaGreatDoorShap
import Derived.Test.YteammdkipnfmnaaGreatDoorShas
namespace Go.Proofs.YteammdkipnfmnaaGreatDoor.bun
open Go Go.RowKit Go.Proofs.YteammdkipnfmnaaGreatDoor.base Go.Proofs.YteammdkipnfmnaaGreatDoor.pairs Go.Proofs.YteammdkipnfmnaaGreatDoor.tree Go.Proofs.YteammdkipnfmnaaGreatDoor.lay Go.Proofs.YteammdkipnfmnaaGreatDoor.range Go.Proofs.YteammdkipnfmnaaGreatDoor.seals Go.Proofs.YteammdkipnfmnaaGreatDoor.tabs Go.Proofs.YteammdkipnfmnaaGreatDoor.draw
set_option linter.unusedVariables false
set_option linter.unusedSimpArgs false

theorem row_fzE {w : World} {b : Nat} {e : TypeId} {s g n c m : Nat} {xs : List Value} (h : w.ownsRow b e s (.slice (some ⟨g, 0, none⟩) n c) m xs) (j : Nat) : w.frozen? ⟨g, j, none⟩ = false := by
  rcases h.2 with ⟨e2, _⟩ | ⟨g2, cap, cur, e2, _, hg, _⟩
  · cases e2
  · cases e2; simp [World.frozen?, hg]
theorem ownP_madeE (w : World) : OwnG 64 proofR (w.alloc (.cells #[] 64)) (.slice (some ⟨w.heap.size, 0, none⟩) 0 0) [] [] :=
  ⟨rfl, World.ownsRow_made w #[] 0 (Nat.zero_le _) (Nat.zero_le _) (by simp), fun i h => absurd h (by simp), by simp [blocksOf, Value.ownBlock]⟩
set_option maxRecDepth 100000 in
set_option maxHeartbeats 16000000 in
theorem d_bendB (w0 w : World) (gc : Nat) (a : Option Addr) (len cap : Nat) (code : List UInt8) (h : Cur w0 w gc a len cap code) (no : Int) (pv : ByteArray) (ra : Option Addr) (rn rc : Nat) (pa : Option Addr) (pn pc : Nat) (rs : List ByteArray) (L : List Pf) (hno : 0 ≤ no ∧ no ≤ 50) (hpv : sm64 pv) (hR : SlS w ra rn rs) (hrc : rn ≤ rc) (hrl : rn ≤ 8) (hsm : ∀ r ∈ rs, sm64 r) (hP : PJ w pa pn L) (hpl : pn ≤ 8) (ht : ∀ f ∈ L, tinyF f) :
    Calls Tryz.prog 22 #[.pointer (some ⟨gc, 0, none⟩), .agg #[.int .i64 no, .string pv, .slice ra rn rc, .slice pa pn pc]] w fun e w' => GotBnd w0 w gc a len cap code e w' := by
  obtain rfl : rs.length = rn := hR.1
  obtain rfl : L.length = pn := hP.1
  have hgl := h.lt
  have hge := h.ge
  obtain ⟨W1, hW1⟩ : ∃ W, w.alloc (.cells #[.int .i64 no, .string pv, .slice ra rs.length rc, .slice pa L.length pc] 27) = W := ⟨_, rfl⟩
  obtain ⟨W, hW2⟩ : ∃ W, W1.alloc (.cells #[.int .i64 0, .string ⟨#[]⟩, .slice none 0 0, .slice none 0 0] 27) = W := ⟨_, rfl⟩
  have hs1 : W1.heap.size = w.heap.size + 1 := by rw [← hW1]; simp
  have hs2 : W.heap.size = w.heap.size + 2 := by rw [← hW2]; simp [hs1]
  have q1 : Below w.heap.size w W1 := by rw [← hW1]; exact below_make
  have q2 : Below W1.heap.size W1 W := by rw [← hW2]; exact below_make
  have hB := q1.trans (q2.mono q1.size)
  have hX1 : BoxIn w.heap.size 27 [] [.int .i64 no, .string pv, .slice ra rs.length rc, .slice pa L.length pc] [] W1 := by rw [← hW1]; exact boxIn_new w _ _
  have hX := hX1.below q2
  have hRb : BoxIn W1.heap.size 27 [] [.int .i64 0, .string ⟨#[]⟩, .slice none 0 0, .slice none 0 0] [] W := by rw [← hW2]; exact boxIn_new W1 _ _
  rw [hs1] at hRb
  have HWW : Hid ((w.alloc (.cells #[.int .i64 no, .string pv, .slice ra rs.length rc, .slice pa L.length pc] 27)).alloc (.cells #[.int .i64 0, .string ⟨#[]⟩, .slice none 0 0, .slice none 0 0] 27) = W) := by show _ = _; rw [hW1, hW2]
  obtain ⟨ra', n', c', e, _, hG0⟩ := texts_see.2 ⟨hR.below hB, hrc⟩
  simp only [List.cons.injEq, Value.slice.injEq, and_true] at e
  obtain ⟨rfl, rfl, rfl⟩ := e
  obtain ⟨V, hV⟩ : ∃ V, W.alloc (.cells #[] 9) = V := ⟨_, rfl⟩
  have hbV : Below W.heap.size W V := by rw [← hV]; exact below_make
  have hrow : V.ownsRow 0 9 1 (.slice (some ⟨W.heap.size, 0, none⟩) 0 0) 0 [] := by rw [← hV]; exact World.ownsRow_made W #[] 0 (Nat.zero_le _) (Nat.zero_le _) (by simp)
  obtain ⟨g, c, w2, hrun, hTx, hgr, hat⟩ := copy_strs (c := rc) hrow (hG0.below hbV) (by omega) 24
  have hsV := hbV.size
  have hX2 := (hX.below hbV).grown hgr (fun e => by have := Option.some.inj e; omega)
  have hR2 := (hRb.below hbV).grown hgr (fun e => by have := Option.some.inj e; omega)
  have hgW : W.heap.size ≤ g := by rcases hat with e | e <;> omega
  have hBV := hB.trans (hbV.mono hB.size)
  have hB2 := hBV.grown hgr hBV.size (fun k e => by have := Option.some.inj e; omega)
  have hgl2 := textsR.ownLt hTx g (by simp)
  have f2 := hX2.fz 2
  have hS := hX2.set 2 (by simp) (.slice (some ⟨g, 0, none⟩) rs.length c)
  simp only [List.length_nil, Nat.zero_add, List.set_cons_succ, List.set_cons_zero] at hS
  have hB3 := hB2.grown hS.2 hB2.size (fun k e => by have := Option.some.inj e; omega)
  have hR3 := hR2.grown hS.2 (fun e => by have := Option.some.inj e; omega)
  have hT3 := textsR.ownGrown hTx hS.2 (fun k hk e => by
    have h1 : k = g := by simpa using hk
    have := Option.some.inj e
    omega)
  have HS3 : Hid ((w2.setCell ⟨w.heap.size, 2, none⟩ (.slice (some ⟨g, 0, none⟩) rs.length c)).heap.size = w2.heap.size) := by show _ = _; simp
  obtain ⟨y0, y1, y2, y3⟩ := box4d (hX.below hbV)
  rw [← hV] at y2
  obtain ⟨z0, z1, z2, z3⟩ := box4d hX2
  obtain ⟨w4, hw4⟩ : ∃ V, (w2.setCell ⟨w.heap.size, 2, none⟩ (.slice (some ⟨g, 0, none⟩) rs.length c)).alloc (.cells #[] 64) = V := ⟨_, rfl⟩
  have hb4 : Below w2.heap.size (w2.setCell ⟨w.heap.size, 2, none⟩ (.slice (some ⟨g, 0, none⟩) rs.length c)) w4 := by rw [← hw4, ← HS3.out]; exact below_make
  have hb4' : Below (w2.setCell ⟨w.heap.size, 2, none⟩ (.slice (some ⟨g, 0, none⟩) rs.length c)).heap.size (w2.setCell ⟨w.heap.size, 2, none⟩ (.slice (some ⟨g, 0, none⟩) rs.length c)) w4 := by rw [← hw4]; exact below_make
  have hB4 := hB3.trans (hb4'.mono hB3.size)
  have hO4 : OwnG 64 proofR w4 (.slice (some ⟨w2.heap.size, 0, none⟩) 0 0) [] [] := by
    have := ownP_madeE (w2.setCell ⟨w.heap.size, 2, none⟩ (.slice (some ⟨g, 0, none⟩) rs.length c))
    rw [HS3.out, hw4] at this
    exact this
  obtain ⟨vt, qt, et, eF, hT4⟩ := textsR.ownBelow hT3 hb4'
  simp only [List.cons.injEq, and_true] at et
  subst et
  have hsW2 := hB2.size
  have hXl := hX2.lt
  have hRl := hR2.lt
  have HT4 : Hid (BSt w0 w w4 gc a len cap code w.heap.size (w.heap.size + 1) no pv (.slice (some ⟨g, 0, none⟩) rs.length c) (.slice pa L.length pc) g rs.length c rs qt w2.heap.size 0 0 [] []) :=
    ⟨h.below hB4, grown_below (World.grownBy.refl _ _) hB4, hgl, hS.1.below hb4', hR3.below hb4', hT4, hO4, Nat.le_refl _, Nat.le_succ _, by omega, fun k hk => by simp [blocksOf] at hk; omega, ⟨by simp [blocksOf]; omega, by simp [blocksOf]; omega, by simp [blocksOf]; omega, by omega, by omega, by omega⟩, fun f hf => absurd hf List.not_mem_nil⟩
  have HB4 := Hid.mk' hB4
  have HW4 := Hid.mk' hw4
  have HV := Hid.mk' hV
  have HPJ := Hid.mk' hP
  have HTI := Hid.mk' ht
  clear hB4 hb4 hb4' hO4 hT4 hw4 hT3 hR3 hB3 hS hB2 hBV hR2 hX2 hgr hat hTx hrow hbV hG0 hRb hX hX1 q1 q2 hB hW1 hW2 hV hP ht hR y0 y1 y3 eF hs1 hs2 hgl2 hsW2 hXl hRl
  go_enter Tryz.func22, Tryz.ntmps22
  go_upto_region 1 with fail
  rw [HWW.out]
  clear HWW
  go_wp2_with (at_builtin; rw [HV.out]; refine cos.wpList_append_run rfl _ _ 24 rfl (by kernel_rfl) (by kernel_rfl) hrun ?_)
  clear hrun HV y2
  go_wp2_with fail
  rw [HW4.out]
  clear HW4 z0 z1 z2 z3 f2
  generalize w2.heap.size = P0 at *
  go_loopw [6, 5] (fun i s wr => ∃ (k P cP : Nat) (q : Parts), k ≤ L.length ∧ i = .int .i64 (k : Int) ∧ s = .slice (some ⟨P, 0, none⟩) k cP ∧ BSt w0 w wr gc a len cap code w.heap.size (w.heap.size + 1) no pv (.slice (some ⟨g, 0, none⟩) rs.length c) (.slice pa L.length pc) g rs.length c rs qt P k cP (L.take k) q ∧ Below w.heap.size w wr) (fun i _ _ => L.length - (intOf i).toNat)
  case atStart => exact ⟨0, _, _, [], Nat.zero_le _, rfl, rfl, HT4.out, HB4.out⟩
  case round =>
    clear HT4 HB4
    obtain ⟨k, P, cP, q, hk, rfl, rfl, hT, hBr⟩ := hrel
    by_cases hlt : k < L.length
    · have hki : (k : Int) < (L.length : Int) := by omega
      obtain ⟨pb, pf, e, hcl⟩ := HPJ.out.2.2 (by omega)
      subst e
      obtain ⟨ia, ic, t0, t1, t2, hJ, kw1, kw2⟩ := hcl k hlt
      have d0 := (hBr.cell (p := ⟨pb, pf + k * 3, none⟩) (World.block_lt_of_cell? w _ t0)).trans t0
      have d1 := (hBr.cell (p := ⟨pb, pf + k * 3 + 1, none⟩) (World.block_lt_of_cell? w _ t1)).trans t1
      have d2 := (hBr.cell (p := ⟨pb, pf + k * 3 + 2, none⟩) (World.block_lt_of_cell? w _ t2)).trans t2
      have htk := HTI.out L[k] (List.getElem_mem hlt)
      have HLK : Hid (L.take (k + 1) = L.take k ++ [L[k]]) := List.take_succ_eq_append_getElem hlt
      have HTL : Hid ((L.take k).length = k) := by show _ = _; simp; omega
      have hJr := hJ.below hBr
      clear hcl t0 t1 t2 hJ
      generalize L.take k = M at *
      generalize L[k] = f at *
      obtain ⟨fn, ff, its⟩ := f
      simp only [] at d0 d1 d2 hJr kw1 kw2 htk
      have HCP := Hid.mk' (spec_l5Copy fn ff ia its.length ic its wr hJr (by have h9 := htk.2.2.1; simp only [] at h9; omega) (fun x hx => (htk.2.2.2 x hx).tiny))
      have HTK := Hid.mk' htk
      obtain ⟨z0, z1, z2, z3⟩ := box4d hT.box
      have HT := Hid.mk' hT
      have HBr := Hid.mk' hBr
      have hrX := hT.box.lt
      have hrR := hT.ret.lt
      have hrG := hT.txt.lts g (by simp)
      have hrw := hBr.size
      clear hT hBr htk hJr
      go_wp2_with fail
      refine HCP.out.mono ?_
      rintro e w5 ⟨ja, jm, jc, hs', rfl, hI5, hb5⟩
      change OwnI w5 _ (.slice ja jm jc) its hs' at hI5
      have hT5 := HT.out.below hb5
      obtain ⟨V, hV⟩ : ∃ V, w5.alloc (.cells #[.int .i64 fn, .int .i64 ff, .slice ja jm jc] 64) = V := ⟨_, rfl⟩
      have hbv : Below w5.heap.size w5 V := by rw [← hV]; exact below_make
      have hXV : BoxIn w5.heap.size 64 [] [.int .i64 fn, .int .i64 ff, .slice ja jm jc] [] V := by rw [← hV]; exact boxIn_new w5 _ _
      have hT6 := hT5.below hbv
      have hIl : ∀ b ∈ blkI (.slice ja jm jc) hs', wr.heap.size ≤ b ∧ b < w5.heap.size := fun b hb => hI5.lt b (mem_blkI.1 hb)
      have hPr : proofR.own V [.int .i64 fn, .int .i64 ff, .slice ja jm jc] (fn, ff, its) (blkI (.slice ja jm jc) hs') := proof_own.2 ⟨_, rfl, kw1, kw2, ⟨_, hs', rfl, rfl, (hI5.below hbv).mono (Nat.zero_le _)⟩⟩
      obtain ⟨gP, cP', w7, hrun, hO7, hgr, hat⟩ := cos.OwnG.appRun (P := Tryz.prog) (z := .agg #[.int .i64 0, .int .i64 0, .slice none 0 0]) Tryz.underlying25 infoPf rfl (by decide) hT6.prf hPr (fun b hb hc => by
        have h1 := (hIl b hb).1
        have h2 := HT.out.prf.at_ b hc
        omega) hXV (by rw [HTL.out]; unfold maxLen; omega) (by rw [HTL.out]; omega) 25
      have hT8 := hT6.push (fun b hb => by
        have h1 := (hIl b hb).1
        exact ⟨by omega, by omega, by omega, by omega⟩) hO7 (by simpa [Value.ownBlock] using hgr) (by
        rcases hat with e | e
        · left; simpa [Value.ownBlock] using e
        · exact .inr e) HTK.out
      have hB5 := HBr.out.trans (hb5.mono HBr.out.size)
      have hB6 := hB5.trans (hbv.mono hB5.size)
      have HB7 := Hid.mk' (hB6.grown hgr hB6.size (fun b e => by
        have h1 : b = P := by simpa [Value.ownBlock] using e.symm
        rw [h1]; exact HT.out.nP P (by simp)))
      rw [HTL.out] at hrun hT8
      have HT8 := Hid.mk' hT8
      have HV := Hid.mk' hV
      clear hT8 hO7 hgr hat hPr hIl hT6 hXV hbv hV hT5 hI5 hb5 HCP HT HBr hB5 hB6 d0 d1 d2 z0 z1 z2 z3
      go_wp2_with (at_builtin; rw [HV.out]; refine cos.wpList_append_run rfl _ _ 25 rfl (by kernel_rfl) (by kernel_rfl) hrun ?_)
      clear hrun HV
      go_wp2_with fail
      go_roundw
      case rel => exact ⟨k + 1, gP, cP', _, by omega, by go_num, rfl, by rw [HLK.out]; exact HT8.out, HB7.out⟩
      case measure => simp [intOf]; omega
    · have hki : ¬ (k : Int) < (L.length : Int) := by omega
      rw [List.take_of_length_le (by omega)] at hT
      obtain rfl : k = L.length := by omega
      have hcl : L.length ≤ cP := by
        rcases hT.prf.shape with ⟨e9, _⟩ | ⟨_, _, e9, h9, _⟩
        · cases e9
        · cases e9; exact h9
      obtain ⟨z0, z1, z2, z3⟩ := box4d hT.box
      have f3 := hT.box.fz 3
      have hS := hT.box.set 3 (by simp) (.slice (some ⟨P, 0, none⟩) L.length cP)
      simp only [List.length_nil, Nat.zero_add, List.set_cons_succ, List.set_cons_zero] at hS
      have HT8 := Hid.mk' (hT.put hS.1 hS.2)
      clear hS hT hBr HPJ HTI
      by_cases hz : 0 < L.length
      · have hzi : (0 : Int) < (L.length : Int) := by omega
        go_wp2_with fail
        refine (below_ w0 _ gc a len cap code (L.length : Int) HT8.out.cur (by omega) (by omega)).mono ?_
        rintro e w9 ⟨kk, hkk, rfl, hc9, hg9⟩
        have HT9 := Hid.mk' (HT8.out.drawn hc9 hg9)
        clear hc9 hg9 HT8 z0 z1 z2 z3 f3
        go_wp2_with fail
        refine (below_ w0 _ gc a len cap code 5 HT9.out.cur (by omega) (by omega)).mono ?_
        rintro e wz ⟨x, hx, rfl, hc9, hg9⟩
        have hT := HT9.out.drawn hc9 hg9
        clear hc9 hg9 HT9
        by_cases x0 : x = 0
        · subst x0
          obtain ⟨z0, z1, z2, z3⟩ := box4d hT.box
          have f0 := hT.box.fz 0
          have hS := hT.box.set 0 (by simp) (.int .i64 (no + 1))
          simp only [List.length_nil, Nat.zero_add, List.set_cons_succ, List.set_cons_zero] at hS
          have hT2 := hT.put hS.1 hS.2
          have hF := hT2.weak (fj_of hT2.prf hT2.tin) hsm (by omega) ⟨by omega, by omega⟩
          obtain ⟨y0, y1, y2, y3⟩ := box4d hF.box
          obtain ⟨r0, r1, r2, r3⟩ := box4d hF.ret
          have k0 := hF.ret.fz 0
          have k1 := hF.ret.fz 1
          have k2 := hF.ret.fz 2
          have k3 := hF.ret.fz 3
          have hD := hF.done (by omega) hpv
          obtain ⟨u0, u1, u2, u3⟩ := box4d hD.1
          simp only [putAll, Nat.zero_add, Nat.reduceAdd] at u0 u1 u2 u3
          have HD := Hid.mk' hD.2
          simp only [putAll, Nat.zero_add, Nat.reduceAdd] at HD
          clear hD hF hT2 hS hT
          go_wp2_with fail
          refine bodyPost_ret (v := .agg #[.int .i64 (no + 1), .string pv, .slice (some ⟨g, 0, none⟩) rs.length c, .slice (some ⟨P, 0, none⟩) L.length cP]) ?_ rfl HD.out
          simp [results, Tryz.results22, go_sem, u0, u1, u2, u3]
        by_cases x1 : x = 1
        · subst x1
          obtain ⟨z0, z1, z2, z3⟩ := box4d hT.box
          have f3 := hT.box.fz 3
          have hk1 : (kk : Int) ≤ (L.length : Int) := by omega
          have hk2 : (kk : Int) ≤ (cP : Int) := by omega
          have hk3 : ¬ cP = kk := by omega
          have hS := hT.box.set 3 (by simp) (.slice (some ⟨P, kk * 3, none⟩) (L.length - kk) (cP - kk))
          simp only [List.length_nil, Nat.zero_add, List.set_cons_succ, List.set_cons_zero] at hS
          have hT2 := hT.put hS.1 hS.2
          have hF := hT2.weak (by have := fj_drop (k := kk) (fj_of hT2.prf hT2.tin); rw [Nat.zero_add] at this; exact this) hsm (by omega) ⟨by omega, by omega⟩
          obtain ⟨y0, y1, y2, y3⟩ := box4d hF.box
          obtain ⟨r0, r1, r2, r3⟩ := box4d hF.ret
          have k0 := hF.ret.fz 0
          have k1 := hF.ret.fz 1
          have k2 := hF.ret.fz 2
          have k3 := hF.ret.fz 3
          have hD := hF.done (by omega) hpv
          obtain ⟨u0, u1, u2, u3⟩ := box4d hD.1
          simp only [putAll, Nat.zero_add, Nat.reduceAdd] at u0 u1 u2 u3
          have HD := Hid.mk' hD.2
          simp only [putAll, Nat.zero_add, Nat.reduceAdd] at HD
          clear hD hF hT2 hS hT
          go_wp2_with fail
          refine bodyPost_ret (v := .agg #[.int .i64 no, .string pv, .slice (some ⟨g, 0, none⟩) rs.length c, .slice (some ⟨P, kk * 3, none⟩) (L.length - kk) (cP - kk)]) ?_ rfl HD.out
          simp [results, Tryz.results22, go_sem, u0, u1, u2, u3]
        by_cases x2 : x = 2
        · subst x2
          obtain ⟨z0, z1, z2, z3⟩ := box4d hT.box
          have HT := Hid.mk' hT
          clear hT
          go_wp2_with fail
          have hdW : Below wz.heap.size wz wz.drew := (Below.refl _ _).drew
          refine last.wp_region_later (S := fun w' => BoxIn w.heap.size 27 [] [.int .i64 no, .string pv, .slice (some ⟨g, 0, none⟩) rs.length c, .slice (some ⟨P, 0, none⟩) L.length cP] [] w') 7 (by kernel_rfl) (HT.out.box.below hdW) (fun hHeld0 => ?_)
          have HTD := Hid.mk' (HT.out.below hdW)
          generalize hD : wz.drew = D at *
          clear hD z0 z1 z2 z3 HT hdW
          refine last.wpAnyL_take (i := 0) (v := (.pointer (some ⟨w.heap.size, 2, none⟩))) rfl rfl (by kernel_rfl) (by kernel_rfl) (by kernel_rfl) (by kernel_rfl) (fun _ _ _ h => h) (Or.inl ⟨by rfl, ?_⟩) (by assumption) ?_
          · intro wq hSq; go_simp
          try simp only [Act.put, List.setIfInBounds_toArray, List.set_cons_zero, List.set_cons_succ]
          refine last.wpAnyL_take (i := 1) (v := (.slice (some ⟨g, 0, none⟩) rs.length c)) rfl rfl (by kernel_rfl) (by kernel_rfl) (by kernel_rfl) (by kernel_rfl) (fun _ _ _ h => h) (Or.inl ⟨by rfl, ?_⟩) (by assumption) ?_
          · intro wq hSq; have q := (box4d hSq).2.2.1; go_simp
          try simp only [Act.put, List.setIfInBounds_toArray, List.set_cons_zero, List.set_cons_succ]
          refine last.wpAnyL_one (i := 2) (o := { dst := some 72, op := Op.buildSlice 22 0 #[], type := 22, pos := "l16_bundle.go:83", after := #[], guard := none }) (by kernel_rfl) rfl (fun K hK => ?_)
          go_simp
          obtain ⟨V, hV⟩ : ∃ V, D.alloc (.cells #[] 5) = V := ⟨_, rfl⟩
          have hbv : Below D.heap.size D V := by rw [← hV]; exact below_make
          have hT5 := HTD.out.below hbv
          rw [hV]
          refine hK.out _ _ ?_ (fun hHeld => ?_)
          · exact hT5.box
          clear hK K hHeld0
          have hHeld0 := hHeld
          clear hHeld
          try simp only [Act.put, List.setIfInBounds_toArray, List.set_cons_zero, List.set_cons_succ]
          have HDG := Hid.mk' (sha.spec_digest D.heap.size 0 0 0 [] V (sl_nil _ _) (by omega))
          have hd32 := dg_size []
          unfold dg at hd32
          generalize (⟨(sha.digest []).toArray⟩ : ByteArray) = rt at *
          have HT5 := Hid.mk' hT5
          clear hV hbv hT5 HTD
          refine last.wpAnyL_one (i := 3) (o := { dst := some 73, op := Op.call { callee := Callee.value (Operand.func 50), args := #[Operand.tmp 72], argTypes := #[22] }, type := 9, pos := "l16_bundle.go:83", after := #[{ on := 2, ground := Ground.data }], guard := none }) (by kernel_rfl) rfl (fun K hK => ?_)
          refine stepg.call1 rfl 50 (.tmp 72) _ rfl (fun _ _ => rfl) (.slice (some ⟨D.heap.size, 0, none⟩) 0 0) (by kernel_rfl) _ HDG.out ?_
          rintro e w9 ⟨rfl, hb9⟩
          refine ⟨_, rfl, ?_⟩
          have hT9 := HT5.out.below hb9
          refine hK.out _ _ ?_ (fun hHeld => ?_)
          · exact hT9.box
          clear hK K hHeld0
          have hHeld0 := hHeld
          clear hHeld
          try simp only [Act.put, List.setIfInBounds_toArray, List.set_cons_zero, List.set_cons_succ]
          refine last.wpAnyL_one (i := 4) (o := { dst := some 74, op := Op.buildSlice 24 1 #[(0, Operand.tmp 73)], type := 24, pos := "l16_bundle.go:83", after := #[{ on := 3, ground := Ground.data }], guard := none }) (by kernel_rfl) rfl (fun K hK => ?_)
          go_simp
          obtain ⟨V2, hV2⟩ : ∃ V, w9.alloc (.cells #[.string rt] 9) = V := ⟨_, rfl⟩
          have hbv2 : Below w9.heap.size w9 V2 := by rw [← hV2]; exact below_make
          have hXV : BoxIn w9.heap.size 9 [] [.string rt] [] V2 := by rw [← hV2]; exact boxIn_new w9 _ _
          have hT10 := hT9.below hbv2
          rw [hV2]
          refine hK.out _ _ ?_ (fun hHeld => ?_)
          · exact hT10.box
          clear hK K hHeld0
          have hHeld0 := hHeld
          clear hHeld
          try simp only [Act.put, List.setIfInBounds_toArray, List.set_cons_zero, List.set_cons_succ]
          refine last.wpAnyL_one (i := 5) (o := { dst := some 75, op := Op.call { callee := Callee.builtin Builtin.append, args := #[Operand.tmp 71, Operand.tmp 74], argTypes := #[24, 24] }, type := 24, pos := "l16_bundle.go:83", after := #[{ on := 1, ground := Ground.data }, { on := 4, ground := Ground.data }, { on := 3, ground := Ground.chain }], guard := none }) (by kernel_rfl) rfl (fun K hK => ?_)
          obtain ⟨g5, c5, w11, hrun, hO11, hgr, hat⟩ := cos.OwnG.appRun (P := Tryz.prog) (z := .string ⟨#[]⟩) Tryz.underlying24 infoStrD rfl (by decide) hT10.txt (show str.own V2 [.string rt] rt [] from ⟨⟨rfl, by rw [hd32]; unfold maxLen; omega⟩, rfl⟩) (fun b hb => absurd hb List.not_mem_nil) hXV (by unfold maxLen; omega) (by omega) 24
          have hT11 := hT10.root hO11 (by simpa [Value.ownBlock] using hgr) (by
            rcases hat with e | e
            · left; simpa [Value.ownBlock] using e
            · exact .inr e)
          refine cos.step_append_run rfl (.tmp 71) (.tmp 74) 24 rfl (by kernel_rfl) (by kernel_rfl) hrun ?_
          clear hrun
          refine hK.out _ _ ?_ (fun hHeld => ?_)
          · exact hT11.box
          clear hK K hHeld0
          have hHeld0 := hHeld
          clear hHeld
          try simp only [Act.put, List.setIfInBounds_toArray, List.set_cons_zero, List.set_cons_succ]
          refine last.wpAnyL_take (i := 6) (v := (.pointer (some ⟨w.heap.size, 2, none⟩))) rfl rfl (by kernel_rfl) (by kernel_rfl) (by kernel_rfl) (by kernel_rfl) (fun _ _ _ h => h) (Or.inl ⟨by rfl, ?_⟩) (by assumption) ?_
          · intro wq hSq; go_simp
          try simp only [Act.put, List.setIfInBounds_toArray, List.set_cons_zero, List.set_cons_succ]
          refine last.wpAnyL_last (o := { dst := none, op := Op.store 24 (Operand.tmp 76) (Operand.tmp 75), type := 0, pos := "l16_bundle.go:83", after := #[{ on := 6, ground := Ground.data }, { on := 5, ground := Ground.data }, { on := 5, ground := Ground.chain }, { on := 0, ground := Ground.phase }, { on := 1, ground := Ground.phase }, { on := 2, ground := Ground.phase }, { on := 3, ground := Ground.phase }, { on := 4, ground := Ground.phase }, { on := 5, ground := Ground.phase }], guard := none }) (by kernel_rfl) rfl (by kernel_rfl) (fun K hK => ?_)
          obtain ⟨z0, z1, z2, z3⟩ := box4d hT11.box
          have f2 := hT11.box.fz 2
          go_simp
          refine hK.out _ _ ?_
          clear hK K
          have hS := hT11.box.set 2 (by simp) (.slice (some ⟨g5, 0, none⟩) (rs.length + 1) c5)
          simp only [List.length_nil, Nat.zero_add, List.set_cons_succ, List.set_cons_zero] at hS
          have hT2 := hT11.put hS.1 hS.2
          have hF := hT2.weak (fj_of hT2.prf hT2.tin) (fun r hr => by
            rcases List.mem_append.1 hr with e | e
            · exact hsm r e
            · rw [List.mem_singleton.1 e]; unfold sm64; omega) (by omega) ⟨by omega, by omega⟩
          obtain ⟨y0, y1, y2, y3⟩ := box4d hF.box
          obtain ⟨r0, r1, r2, r3⟩ := box4d hF.ret
          have k0 := hF.ret.fz 0
          have k1 := hF.ret.fz 1
          have k2 := hF.ret.fz 2
          have k3 := hF.ret.fz 3
          have hD := hF.done (by omega) hpv
          obtain ⟨u0, u1, u2, u3⟩ := box4d hD.1
          simp only [putAll, Nat.zero_add, Nat.reduceAdd] at u0 u1 u2 u3
          have HD := Hid.mk' hD.2
          simp only [putAll, Nat.zero_add, Nat.reduceAdd] at HD
          clear hD hF hT2 hS hT11 hO11 hgr hat hXV hbv2 hV2 hT10 hT9 hb9 HDG z0 z1 z2 z3 f2
          go_wp2_with fail
          refine bodyPost_ret (v := .agg #[.int .i64 no, .string pv, .slice (some ⟨g5, 0, none⟩) (rs.length + 1) c5, .slice (some ⟨P, 0, none⟩) L.length cP]) ?_ rfl HD.out
          simp [results, Tryz.results22, go_sem, u0, u1, u2, u3]
        have n0 : ((x : Int) == 0) = false := by rw [beq_eq_false_iff_ne]; omega
        have n1 : ((x : Int) == 1) = false := by rw [beq_eq_false_iff_ne]; omega
        have n2 : ((x : Int) == 2) = false := by rw [beq_eq_false_iff_ne]; omega
        obtain ⟨b9, o9, e9, hc9⟩ := (pj_own (v := .slice none 0 0) hT.prf (fun f hf => ⟨by have := (hT.tin f hf).2.2.1; omega, fun y hy => ((hT.tin f hf).2.2.2 y hy).tiny.lim⟩)).2.2 hz
        simp only [Option.some.injEq, Addr.mk.injEq, and_true] at e9
        obtain ⟨rfl, rfl⟩ := e9
        obtain ⟨ia, ic, t0, t1, t2, hJ, kw1, kw2⟩ := hc9 kk (by omega)
        simp only [Nat.zero_add] at t0 t1 t2
        have htk := hT.tin L[kk] (List.getElem_mem (by omega))
        clear hc9
        have hki : (kk : Int) < (L.length : Int) := by omega
        generalize L[kk] = f at *
        obtain ⟨fn, ff, its⟩ := f
        simp only [] at t0 t1 t2 hJ kw1 kw2
        obtain ⟨htn, htf, htl, hti⟩ := htk
        simp only [] at htn htf htl hti
        obtain ⟨z0, z1, z2, z3⟩ := box4d hT.box
        have HT := Hid.mk' hT
        clear hT
        go_wp2_with fail
        have hdW : Below wz.heap.size wz wz.drew := (Below.refl _ _).drew
        refine last.wp_region_later (S := fun w' => BoxIn w.heap.size 27 [] [.int .i64 no, .string pv, .slice (some ⟨g, 0, none⟩) rs.length c, .slice (some ⟨P, 0, none⟩) L.length cP] [] w' ∧ w'.cell? ⟨P, kk * 3, none⟩ = some (.int .i64 fn) ∧ w'.cell? ⟨P, kk * 3 + 1, none⟩ = some (.int .i64 ff) ∧ w'.cell? ⟨P, kk * 3 + 2, none⟩ = some (.slice ia its.length ic)) 11 (by kernel_rfl) ⟨HT.out.box.below hdW, (hdW.cell (p := ⟨P, kk * 3, none⟩) (World.block_lt_of_cell? wz _ t0)).trans t0, (hdW.cell (p := ⟨P, kk * 3 + 1, none⟩) (World.block_lt_of_cell? wz _ t1)).trans t1, (hdW.cell (p := ⟨P, kk * 3 + 2, none⟩) (World.block_lt_of_cell? wz _ t2)).trans t2⟩ (fun hHeld0 => ?_)
        have HTD := Hid.mk' (HT.out.below hdW)
        have HT0 : Hid (wz.drew.cell? ⟨P, kk * 3, none⟩ = some (.int .i64 fn) ∧ wz.drew.cell? ⟨P, kk * 3 + 1, none⟩ = some (.int .i64 ff) ∧ wz.drew.cell? ⟨P, kk * 3 + 2, none⟩ = some (.slice ia its.length ic)) := ⟨(hdW.cell (p := ⟨P, kk * 3, none⟩) (World.block_lt_of_cell? wz _ t0)).trans t0, (hdW.cell (p := ⟨P, kk * 3 + 1, none⟩) (World.block_lt_of_cell? wz _ t1)).trans t1, (hdW.cell (p := ⟨P, kk * 3 + 2, none⟩) (World.block_lt_of_cell? wz _ t2)).trans t2⟩
        have HJD := Hid.mk' (hJ.below hdW)
        generalize hD : wz.drew = D at *
        clear hD z0 z1 z2 z3 HT hdW hJ t0 t1 t2
        have HBE := Hid.mk' (d_bend w0 D gc a len cap code HTD.out.cur fn ff ia its.length ic its HJD.out (by omega) htn htf hti)
        refine last.wpAnyL_take (i := 0) (v := (.pointer (some ⟨w.heap.size, 3, none⟩))) rfl rfl (by kernel_rfl) (by kernel_rfl) (by kernel_rfl) (by kernel_rfl) (fun _ _ _ h => h) (Or.inl ⟨by rfl, ?_⟩) (by assumption) ?_
        · intro wq hSq; go_simp
        try simp only [Act.put, List.setIfInBounds_toArray, List.set_cons_zero, List.set_cons_succ]
        refine last.wpAnyL_take (i := 1) (v := (.slice (some ⟨P, 0, none⟩) L.length cP)) rfl rfl (by kernel_rfl) (by kernel_rfl) (by kernel_rfl) (by kernel_rfl) (fun _ _ _ h => h) (Or.inl ⟨by rfl, ?_⟩) (by assumption) ?_
        · intro wq hSq; have q := (box4d hSq.1).2.2.2; go_simp
        try simp only [Act.put, List.setIfInBounds_toArray, List.set_cons_zero, List.set_cons_succ]
        refine last.wpAnyL_take (i := 2) (v := (.int .i64 (kk : Int))) rfl rfl (by kernel_rfl) (by kernel_rfl) (by kernel_rfl) (by kernel_rfl) (fun _ _ _ h => h) (Or.inl ⟨by rfl, ?_⟩) (by assumption) ?_
        · intro wq hSq; go_simp
        try simp only [Act.put, List.setIfInBounds_toArray, List.set_cons_zero, List.set_cons_succ]
        refine last.wpAnyL_take (i := 3) (v := (.pointer (some ⟨gc, 0, none⟩))) rfl rfl (by kernel_rfl) (by kernel_rfl) (by kernel_rfl) (by kernel_rfl) (fun _ _ _ h => h) (Or.inl ⟨by rfl, ?_⟩) (by assumption) ?_
        · intro wq hSq; go_simp
        try simp only [Act.put, List.setIfInBounds_toArray, List.set_cons_zero, List.set_cons_succ]
        refine last.wpAnyL_take (i := 4) (v := (.pointer (some ⟨w.heap.size, 3, none⟩))) rfl rfl (by kernel_rfl) (by kernel_rfl) (by kernel_rfl) (by kernel_rfl) (fun _ _ _ h => h) (Or.inl ⟨by rfl, ?_⟩) (by assumption) ?_
        · intro wq hSq; go_simp
        try simp only [Act.put, List.setIfInBounds_toArray, List.set_cons_zero, List.set_cons_succ]
        refine last.wpAnyL_take (i := 5) (v := (.slice (some ⟨P, 0, none⟩) L.length cP)) rfl rfl (by kernel_rfl) (by kernel_rfl) (by kernel_rfl) (by kernel_rfl) (fun _ _ _ h => h) (Or.inl ⟨by rfl, ?_⟩) (by assumption) ?_
        · intro wq hSq; have q := (box4d hSq.1).2.2.2; go_simp
        try simp only [Act.put, List.setIfInBounds_toArray, List.set_cons_zero, List.set_cons_succ]
        refine last.wpAnyL_take (i := 6) (v := (.int .i64 (kk : Int))) rfl rfl (by kernel_rfl) (by kernel_rfl) (by kernel_rfl) (by kernel_rfl) (fun _ _ _ h => h) (Or.inl ⟨by rfl, ?_⟩) (by assumption) ?_
        · intro wq hSq; go_simp
        try simp only [Act.put, List.setIfInBounds_toArray, List.set_cons_zero, List.set_cons_succ]
        refine last.wpAnyL_take (i := 7) (v := (.pointer (some ⟨P, kk * 3, none⟩))) rfl rfl (by kernel_rfl) (by kernel_rfl) (by kernel_rfl) (by kernel_rfl) (fun _ _ _ h => h) (Or.inl ⟨by rfl, ?_⟩) (by assumption) ?_
        · intro wq hSq; go_simp
        try simp only [Act.put, List.setIfInBounds_toArray, List.set_cons_zero, List.set_cons_succ]
        refine last.wpAnyL_take (i := 8) (v := (.agg #[.int .i64 fn, .int .i64 ff, .slice ia its.length ic])) rfl rfl (by kernel_rfl) (by kernel_rfl) (by kernel_rfl) (by kernel_rfl) (fun _ _ _ h => h) (Or.inl ⟨by rfl, ?_⟩) (by assumption) ?_
        · intro wq hSq; obtain ⟨q0, q1, q2⟩ := hSq.2; go_simp
        try simp only [Act.put, List.setIfInBounds_toArray, List.set_cons_zero, List.set_cons_succ]
        refine last.wpAnyL_one (i := 9) (o := { dst := some 53, op := Op.call { callee := Callee.value (Operand.func 56), args := #[Operand.tmp 47, Operand.tmp 52], argTypes := #[46, 64] }, type := 64, pos := "l16_bundle.go:86", after := #[{ on := 3, ground := Ground.data }, { on := 8, ground := Ground.data }], guard := none }) (by kernel_rfl) rfl (fun K hK => ?_)
        refine stepg.call2 rfl 56 (.tmp 47) (.tmp 52) _ rfl (fun _ _ => rfl) (.pointer (some ⟨gc, 0, none⟩)) (.agg #[.int .i64 fn, .int .i64 ff, .slice ia its.length ic]) (by kernel_rfl) (by kernel_rfl) _ HBE.out ?_
        rintro e w9 ⟨N, FR, sa, sm, sc, M, rfl, hbd, hsmM, hMt, hMJ, hc9, hg9⟩
        refine ⟨_, rfl, ?_⟩
        have hT9 := HTD.out.drawn hc9 hg9
        have hPg : (some P : Option Nat) ≠ some gc := fun e => by have h1 := Option.some.inj e; have h2 := HTD.out.nP P (by simp); have h3 := HTD.out.lt; omega
        have HT9 : Hid (w9.cell? ⟨P, kk * 3, none⟩ = some (.int .i64 fn) ∧ w9.cell? ⟨P, kk * 3 + 1, none⟩ = some (.int .i64 ff) ∧ w9.cell? ⟨P, kk * 3 + 2, none⟩ = some (.slice ia its.length ic)) := ⟨hg9.cell HT0.out.1 hPg, hg9.cell HT0.out.2.1 hPg, hg9.cell HT0.out.2.2 hPg⟩
        refine hK.out _ _ ?_ (fun hHeld => ?_)
        · exact ⟨hT9.box, HT9.out⟩
        clear hK K hHeld0
        have hHeld0 := hHeld
        clear hHeld
        try simp only [Act.put, List.setIfInBounds_toArray, List.set_cons_zero, List.set_cons_succ]
        refine last.wpAnyL_take (i := 10) (v := (.pointer (some ⟨P, kk * 3, none⟩))) rfl rfl (by kernel_rfl) (by kernel_rfl) (by kernel_rfl) (by kernel_rfl) (fun _ _ _ h => h) (Or.inl ⟨by rfl, ?_⟩) (by assumption) ?_
        · intro wq hSq; go_simp
        try simp only [Act.put, List.setIfInBounds_toArray, List.set_cons_zero, List.set_cons_succ]
        obtain ⟨q0, q1, q2⟩ := HT9.out
        have f0 := row_fzE hT9.prf.row (kk * 3)
        have f1 := row_fzE hT9.prf.row (kk * 3 + 1)
        have f2 := row_fzE hT9.prf.row (kk * 3 + 2)
        have HT9b := Hid.mk' hT9
        have HMJ := Hid.mk' hMJ
        have HMT := Hid.mk' hMt
        have HBD := Hid.mk' hbd
        clear hT9 hMJ hMt hbd hc9 hg9 HBE
        refine last.wpAnyL_last (o := { dst := none, op := Op.store 64 (Operand.tmp 54) (Operand.tmp 53), type := 0, pos := "l16_bundle.go:86", after := #[{ on := 10, ground := Ground.data }, { on := 9, ground := Ground.data }, { on := 9, ground := Ground.chain }, { on := 0, ground := Ground.phase }, { on := 1, ground := Ground.phase }, { on := 2, ground := Ground.phase }, { on := 3, ground := Ground.phase }, { on := 4, ground := Ground.phase }, { on := 5, ground := Ground.phase }, { on := 6, ground := Ground.phase }, { on := 7, ground := Ground.phase }, { on := 8, ground := Ground.phase }, { on := 9, ground := Ground.phase }], guard := none }) (by kernel_rfl) rfl (by kernel_rfl) ?_
        intro K hK
        go_simp
        refine hK.out _ _ ?_
        clear hK K
        have hF := HT9b.out.bent (k := kk) (N := N) (FR := FR) (sc := sc) (by omega) rfl HMJ.out HMT.out hsmM HBD.out hsm (by omega) ⟨by omega, by omega⟩
        obtain ⟨y0, y1, y2, y3⟩ := box4d hF.box
        obtain ⟨r0, r1, r2, r3⟩ := box4d hF.ret
        have k0 := hF.ret.fz 0
        have k1 := hF.ret.fz 1
        have k2 := hF.ret.fz 2
        have k3 := hF.ret.fz 3
        have hD := hF.done (by omega) hpv
        obtain ⟨u0, u1, u2, u3⟩ := box4d hD.1
        simp only [putAll, Nat.zero_add, Nat.reduceAdd] at u0 u1 u2 u3
        have HD := Hid.mk' hD.2
        simp only [putAll, Nat.zero_add, Nat.reduceAdd] at HD
        clear hD hF q0 q1 q2 f0 f1 f2
        go_wp2_with fail
        refine bodyPost_ret (v := .agg #[.int .i64 no, .string pv, .slice (some ⟨g, 0, none⟩) rs.length c, .slice (some ⟨P, 0, none⟩) L.length cP]) ?_ rfl HD.out
        simp [results, Tryz.results22, go_sem, u0, u1, u2, u3]
      · have hL0 : L = [] := List.eq_nil_of_length_eq_zero (by omega)
        subst hL0
        simp only [List.length_nil] at *
        go_wp2_with fail
        refine (below_ w0 _ gc a len cap code 5 HT8.out.cur (by omega) (by omega)).mono ?_
        rintro e wz ⟨x, hx, rfl, hc9, hg9⟩
        have hT := HT8.out.drawn hc9 hg9
        clear hc9 hg9 HT8 z0 z1 z2 z3 f3
        by_cases x0 : x = 0
        · subst x0
          obtain ⟨z0, z1, z2, z3⟩ := box4d hT.box
          have f0 := hT.box.fz 0
          have hS := hT.box.set 0 (by simp) (.int .i64 (no + 1))
          simp only [List.length_nil, Nat.zero_add, List.set_cons_succ, List.set_cons_zero] at hS
          have hT2 := hT.put hS.1 hS.2
          have hF := hT2.weak (fj_nil _ _) hsm (by omega) ⟨by omega, by omega⟩
          obtain ⟨y0, y1, y2, y3⟩ := box4d hF.box
          obtain ⟨r0, r1, r2, r3⟩ := box4d hF.ret
          have k0 := hF.ret.fz 0
          have k1 := hF.ret.fz 1
          have k2 := hF.ret.fz 2
          have k3 := hF.ret.fz 3
          have hD := hF.done (by omega) hpv
          obtain ⟨u0, u1, u2, u3⟩ := box4d hD.1
          simp only [putAll, Nat.zero_add, Nat.reduceAdd] at u0 u1 u2 u3
          have HD := Hid.mk' hD.2
          simp only [putAll, Nat.zero_add, Nat.reduceAdd] at HD
          clear hD hF hT2 hS hT
          go_wp2_with fail
          refine bodyPost_ret (v := .agg #[.int .i64 (no + 1), .string pv, .slice (some ⟨g, 0, none⟩) rs.length c, .slice (some ⟨P, 0, none⟩) 0 cP]) ?_ rfl HD.out
          simp [results, Tryz.results22, go_sem, u0, u1, u2, u3]
        by_cases x1 : x = 1
        · subst x1
          by_cases hc0 : cP = 0
          · subst hc0
            obtain ⟨z0, z1, z2, z3⟩ := box4d hT.box
            have f3 := hT.box.fz 3
            have hS := hT.box.set 3 (by simp) (.slice (some ⟨P, 0, none⟩) 0 0)
            simp only [List.length_nil, Nat.zero_add, List.set_cons_succ, List.set_cons_zero] at hS
            have hT2 := hT.put hS.1 hS.2
            have hF := hT2.weak (fj_nil _ _) hsm (by omega) ⟨by omega, by omega⟩
            obtain ⟨y0, y1, y2, y3⟩ := box4d hF.box
            obtain ⟨r0, r1, r2, r3⟩ := box4d hF.ret
            have k0 := hF.ret.fz 0
            have k1 := hF.ret.fz 1
            have k2 := hF.ret.fz 2
            have k3 := hF.ret.fz 3
            have hD := hF.done (by omega) hpv
            obtain ⟨u0, u1, u2, u3⟩ := box4d hD.1
            simp only [putAll, Nat.zero_add, Nat.reduceAdd] at u0 u1 u2 u3
            have HD := Hid.mk' hD.2
            simp only [putAll, Nat.zero_add, Nat.reduceAdd] at HD
            clear hD hF hT2 hS hT
            go_wp2_with fail
            refine bodyPost_ret (v := .agg #[.int .i64 no, .string pv, .slice (some ⟨g, 0, none⟩) rs.length c, .slice (some ⟨P, 0, none⟩) 0 0]) ?_ rfl HD.out
            simp [results, Tryz.results22, go_sem, u0, u1, u2, u3]
          · have hk2 : (0 : Int) ≤ (cP : Int) := by omega
            obtain ⟨z0, z1, z2, z3⟩ := box4d hT.box
            have f3 := hT.box.fz 3
            have hS := hT.box.set 3 (by simp) (.slice (some ⟨P, 0, none⟩) 0 cP)
            simp only [List.length_nil, Nat.zero_add, List.set_cons_succ, List.set_cons_zero] at hS
            have hT2 := hT.put hS.1 hS.2
            have hF := hT2.weak (fj_nil _ _) hsm (by omega) ⟨by omega, by omega⟩
            obtain ⟨y0, y1, y2, y3⟩ := box4d hF.box
            obtain ⟨r0, r1, r2, r3⟩ := box4d hF.ret
            have k0 := hF.ret.fz 0
            have k1 := hF.ret.fz 1
            have k2 := hF.ret.fz 2
            have k3 := hF.ret.fz 3
            have hD := hF.done (by omega) hpv
            obtain ⟨u0, u1, u2, u3⟩ := box4d hD.1
            simp only [putAll, Nat.zero_add, Nat.reduceAdd] at u0 u1 u2 u3
            have HD := Hid.mk' hD.2
            simp only [putAll, Nat.zero_add, Nat.reduceAdd] at HD
            clear hD hF hT2 hS hT
            go_wp2_with fail
            refine bodyPost_ret (v := .agg #[.int .i64 no, .string pv, .slice (some ⟨g, 0, none⟩) rs.length c, .slice (some ⟨P, 0, none⟩) 0 cP]) ?_ rfl HD.out
            simp [results, Tryz.results22, go_sem, u0, u1, u2, u3]
        by_cases x2 : x = 2
        · subst x2
          obtain ⟨z0, z1, z2, z3⟩ := box4d hT.box
          have HT := Hid.mk' hT
          clear hT
          go_wp2_with fail
          have hdW : Below wz.heap.size wz wz.drew := (Below.refl _ _).drew
          refine last.wp_region_later (S := fun w' => BoxIn w.heap.size 27 [] [.int .i64 no, .string pv, .slice (some ⟨g, 0, none⟩) rs.length c, .slice (some ⟨P, 0, none⟩) 0 cP] [] w') 7 (by kernel_rfl) (HT.out.box.below hdW) (fun hHeld0 => ?_)
          have HTD := Hid.mk' (HT.out.below hdW)
          generalize hD : wz.drew = D at *
          clear hD z0 z1 z2 z3 HT hdW
          refine last.wpAnyL_take (i := 0) (v := (.pointer (some ⟨w.heap.size, 2, none⟩))) rfl rfl (by kernel_rfl) (by kernel_rfl) (by kernel_rfl) (by kernel_rfl) (fun _ _ _ h => h) (Or.inl ⟨by rfl, ?_⟩) (by assumption) ?_
          · intro wq hSq; go_simp
          try simp only [Act.put, List.setIfInBounds_toArray, List.set_cons_zero, List.set_cons_succ]
          refine last.wpAnyL_take (i := 1) (v := (.slice (some ⟨g, 0, none⟩) rs.length c)) rfl rfl (by kernel_rfl) (by kernel_rfl) (by kernel_rfl) (by kernel_rfl) (fun _ _ _ h => h) (Or.inl ⟨by rfl, ?_⟩) (by assumption) ?_
          · intro wq hSq; have q := (box4d hSq).2.2.1; go_simp
          try simp only [Act.put, List.setIfInBounds_toArray, List.set_cons_zero, List.set_cons_succ]
          refine last.wpAnyL_one (i := 2) (o := { dst := some 72, op := Op.buildSlice 22 0 #[], type := 22, pos := "l16_bundle.go:83", after := #[], guard := none }) (by kernel_rfl) rfl (fun K hK => ?_)
          go_simp
          obtain ⟨V, hV⟩ : ∃ V, D.alloc (.cells #[] 5) = V := ⟨_, rfl⟩
          have hbv : Below D.heap.size D V := by rw [← hV]; exact below_make
          have hT5 := HTD.out.below hbv
          rw [hV]
          refine hK.out _ _ ?_ (fun hHeld => ?_)
          · exact hT5.box
          clear hK K hHeld0
          have hHeld0 := hHeld
          clear hHeld
          try simp only [Act.put, List.setIfInBounds_toArray, List.set_cons_zero, List.set_cons_succ]
          have HDG := Hid.mk' (sha.spec_digest D.heap.size 0 0 0 [] V (sl_nil _ _) (by omega))
          have hd32 := dg_size []
          unfold dg at hd32
          generalize (⟨(sha.digest []).toArray⟩ : ByteArray) = rt at *
          have HT5 := Hid.mk' hT5
          clear hV hbv hT5 HTD
          refine last.wpAnyL_one (i := 3) (o := { dst := some 73, op := Op.call { callee := Callee.value (Operand.func 50), args := #[Operand.tmp 72], argTypes := #[22] }, type := 9, pos := "l16_bundle.go:83", after := #[{ on := 2, ground := Ground.data }], guard := none }) (by kernel_rfl) rfl (fun K hK => ?_)
          refine stepg.call1 rfl 50 (.tmp 72) _ rfl (fun _ _ => rfl) (.slice (some ⟨D.heap.size, 0, none⟩) 0 0) (by kernel_rfl) _ HDG.out ?_
          rintro e w9 ⟨rfl, hb9⟩
          refine ⟨_, rfl, ?_⟩
          have hT9 := HT5.out.below hb9
          refine hK.out _ _ ?_ (fun hHeld => ?_)
          · exact hT9.box
          clear hK K hHeld0
          have hHeld0 := hHeld
          clear hHeld
          try simp only [Act.put, List.setIfInBounds_toArray, List.set_cons_zero, List.set_cons_succ]
          refine last.wpAnyL_one (i := 4) (o := { dst := some 74, op := Op.buildSlice 24 1 #[(0, Operand.tmp 73)], type := 24, pos := "l16_bundle.go:83", after := #[{ on := 3, ground := Ground.data }], guard := none }) (by kernel_rfl) rfl (fun K hK => ?_)
          go_simp
          obtain ⟨V2, hV2⟩ : ∃ V, w9.alloc (.cells #[.string rt] 9) = V := ⟨_, rfl⟩
          have hbv2 : Below w9.heap.size w9 V2 := by rw [← hV2]; exact below_make
          have hXV : BoxIn w9.heap.size 9 [] [.string rt] [] V2 := by rw [← hV2]; exact boxIn_new w9 _ _
          have hT10 := hT9.below hbv2
          rw [hV2]
          refine hK.out _ _ ?_ (fun hHeld => ?_)
          · exact hT10.box
          clear hK K hHeld0
          have hHeld0 := hHeld
          clear hHeld
          try simp only [Act.put, List.setIfInBounds_toArray, List.set_cons_zero, List.set_cons_succ]
          refine last.wpAnyL_one (i := 5) (o := { dst := some 75, op := Op.call { callee := Callee.builtin Builtin.append, args := #[Operand.tmp 71, Operand.tmp 74], argTypes := #[24, 24] }, type := 24, pos := "l16_bundle.go:83", after := #[{ on := 1, ground := Ground.data }, { on := 4, ground := Ground.data }, { on := 3, ground := Ground.chain }], guard := none }) (by kernel_rfl) rfl (fun K hK => ?_)
          obtain ⟨g5, c5, w11, hrun, hO11, hgr, hat⟩ := cos.OwnG.appRun (P := Tryz.prog) (z := .string ⟨#[]⟩) Tryz.underlying24 infoStrD rfl (by decide) hT10.txt (show str.own V2 [.string rt] rt [] from ⟨⟨rfl, by rw [hd32]; unfold maxLen; omega⟩, rfl⟩) (fun b hb => absurd hb List.not_mem_nil) hXV (by unfold maxLen; omega) (by omega) 24
          have hT11 := hT10.root hO11 (by simpa [Value.ownBlock] using hgr) (by
            rcases hat with e | e
            · left; simpa [Value.ownBlock] using e
            · exact .inr e)
          refine cos.step_append_run rfl (.tmp 71) (.tmp 74) 24 rfl (by kernel_rfl) (by kernel_rfl) hrun ?_
          clear hrun
          refine hK.out _ _ ?_ (fun hHeld => ?_)
          · exact hT11.box
          clear hK K hHeld0
          have hHeld0 := hHeld
          clear hHeld
          try simp only [Act.put, List.setIfInBounds_toArray, List.set_cons_zero, List.set_cons_succ]
          refine last.wpAnyL_take (i := 6) (v := (.pointer (some ⟨w.heap.size, 2, none⟩))) rfl rfl (by kernel_rfl) (by kernel_rfl) (by kernel_rfl) (by kernel_rfl) (fun _ _ _ h => h) (Or.inl ⟨by rfl, ?_⟩) (by assumption) ?_
          · intro wq hSq; go_simp
          try simp only [Act.put, List.setIfInBounds_toArray, List.set_cons_zero, List.set_cons_succ]
          refine last.wpAnyL_last (o := { dst := none, op := Op.store 24 (Operand.tmp 76) (Operand.tmp 75), type := 0, pos := "l16_bundle.go:83", after := #[{ on := 6, ground := Ground.data }, { on := 5, ground := Ground.data }, { on := 5, ground := Ground.chain }, { on := 0, ground := Ground.phase }, { on := 1, ground := Ground.phase }, { on := 2, ground := Ground.phase }, { on := 3, ground := Ground.phase }, { on := 4, ground := Ground.phase }, { on := 5, ground := Ground.phase }], guard := none }) (by kernel_rfl) rfl (by kernel_rfl) (fun K hK => ?_)
          obtain ⟨z0, z1, z2, z3⟩ := box4d hT11.box
          have f2 := hT11.box.fz 2
          go_simp
          refine hK.out _ _ ?_
          clear hK K
          have hS := hT11.box.set 2 (by simp) (.slice (some ⟨g5, 0, none⟩) (rs.length + 1) c5)
          simp only [List.length_nil, Nat.zero_add, List.set_cons_succ, List.set_cons_zero] at hS
          have hT2 := hT11.put hS.1 hS.2
          have hF := hT2.weak (fj_nil _ _) (fun r hr => by
            rcases List.mem_append.1 hr with e | e
            · exact hsm r e
            · rw [List.mem_singleton.1 e]; unfold sm64; omega) (by omega) ⟨by omega, by omega⟩
          obtain ⟨y0, y1, y2, y3⟩ := box4d hF.box
          obtain ⟨r0, r1, r2, r3⟩ := box4d hF.ret
          have k0 := hF.ret.fz 0
          have k1 := hF.ret.fz 1
          have k2 := hF.ret.fz 2
          have k3 := hF.ret.fz 3
          have hD := hF.done (by omega) hpv
          obtain ⟨u0, u1, u2, u3⟩ := box4d hD.1
          simp only [putAll, Nat.zero_add, Nat.reduceAdd] at u0 u1 u2 u3
          have HD := Hid.mk' hD.2
          simp only [putAll, Nat.zero_add, Nat.reduceAdd] at HD
          clear hD hF hT2 hS hT11 hO11 hgr hat hXV hbv2 hV2 hT10 hT9 hb9 HDG z0 z1 z2 z3 f2
          go_wp2_with fail
          refine bodyPost_ret (v := .agg #[.int .i64 no, .string pv, .slice (some ⟨g5, 0, none⟩) (rs.length + 1) c5, .slice (some ⟨P, 0, none⟩) 0 cP]) ?_ rfl HD.out
          simp [results, Tryz.results22, go_sem, u0, u1, u2, u3]
        have n0 : ((x : Int) == 0) = false := by rw [beq_eq_false_iff_ne]; omega
        have n1 : ((x : Int) == 1) = false := by rw [beq_eq_false_iff_ne]; omega
        have n2 : ((x : Int) == 2) = false := by rw [beq_eq_false_iff_ne]; omega
        have hT2 := hT
        have hF := hT2.weak (fj_nil _ _) hsm (by omega) ⟨by omega, by omega⟩
        obtain ⟨y0, y1, y2, y3⟩ := box4d hF.box
        obtain ⟨r0, r1, r2, r3⟩ := box4d hF.ret
        have k0 := hF.ret.fz 0
        have k1 := hF.ret.fz 1
        have k2 := hF.ret.fz 2
        have k3 := hF.ret.fz 3
        have hD := hF.done (by omega) hpv
        obtain ⟨u0, u1, u2, u3⟩ := box4d hD.1
        simp only [putAll, Nat.zero_add, Nat.reduceAdd] at u0 u1 u2 u3
        have HD := Hid.mk' hD.2
        simp only [putAll, Nat.zero_add, Nat.reduceAdd] at HD
        clear hD hF hT2 hT
        go_wp2_with fail
        refine bodyPost_ret (v := .agg #[.int .i64 no, .string pv, .slice (some ⟨g, 0, none⟩) rs.length c, .slice (some ⟨P, 0, none⟩) 0 cP]) ?_ rfl HD.out
        simp [results, Tryz.results22, go_sem, u0, u1, u2, u3]
end Go.Proofs.YteammdkipnfmnaaGreatDoor.bun
