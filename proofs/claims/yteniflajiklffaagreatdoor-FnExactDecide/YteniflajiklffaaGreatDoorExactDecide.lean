/- The statement FnExactDecideCardSaid: at every shard, number and truth FnExactDecide answers true, and the arguments read afterwards as before. No condition besides the row's own: the program's named errors lie as its text lays them. -/
import Derived.Test.YteniflajiklffaaGreatDoorRows
import Derived.Test.YteniflajiklffaaGreatDoorCards
import Derived.Test.YteniflajiklffaaGreatDoorTie
import Derived.Test.YteniflajiklffaaGreatDoorShak
import Derived.Test.YteniflajiklffaaGreatDoorShbb
import Derived.ProofKit
import Derived.OpenShut
import Derived.ShutString
import Derived.ChangeOld
import Derived.Below
import Derived.ChangeVars
import Derived.OpenVars
import Derived.LaidMore
import Derived.Lay
import Derived.LaidOnce
import Derived.SevenTiedAt
namespace Go.Proofs.YteniflajiklffaaGreatDoor.fnExactDecide
open Go.ChangeShapes Go.WideShapes Go.ChangeAt Go.RowKit
open Go.ChangeMaps (open_string shut_string)
set_option linter.unusedVariables false
open Go.Proofs.YteniflajiklffaaGreatDoor.base Go.Proofs.YteniflajiklffaaGreatDoor.pairs Go.Proofs.YteniflajiklffaaGreatDoor.ords Go.Proofs.YteniflajiklffaaGreatDoor.help Go.Proofs.YteniflajiklffaaGreatDoor.helps Go.Proofs.YteniflajiklffaaGreatDoor.recs Go.Proofs.YteniflajiklffaaGreatDoor.lay

theorem cnt_cut (l : List Rc) (k : Nat) (hk : k < l.length) : cntR (l.take k ++ l.drop (k + 1)) ≤ cntR l := by
  have e : cntR l = cntR (l.take k) + (2 + 3 * l[k].2.2.length + cntR (l.drop (k + 1))) := by
    conv => lhs; rw [← List.take_append_drop k l, cntR_append, List.drop_eq_getElem_cons hk, cntR_cons]
  rw [cntR_append, e]; omega
theorem written_cnt {s : Shd} (h : Bound s) (hR : Right s) (x kind : Int) (hk : kind ≠ 1) : cntS (recs.written s (kind, x, [])) ≤ 100000000 ∧ (recs.written s (kind, x, [])).2.1.length ≤ 100000000 ∧ (recs.written s (kind, x, [])).2.2.2.2.length ≤ 100000000 := by
  have h1 := h.cnt
  have h2 := h.log
  have h3 := h.held
  have h4 := h.map
  unfold cntS at h1 ⊢
  have e1 : (recs.written s (kind, x, [])).2.1 = s.2.1 ++ [(kind, x, [])] := rfl
  have e2 : (recs.written s (kind, x, [])).2.2.2.1 = (forced s.2.2.2.1 s.2.2.2.2 (kind, x, [])).1 := rfl
  have e3 : (recs.written s (kind, x, [])).2.2.2.2 = (forced s.2.2.2.1 s.2.2.2.2 (kind, x, [])).2 := rfl
  rw [e1, e2, e3, cntR_append]
  have e4 : cntR [((kind, x, []) : Rc)] = 2 := by simp [cntR]
  rw [e4, List.length_append]
  unfold forced
  rw [if_neg hk]
  cases hp : placeTx x s.2.2.2.2 with
  | none => simp only [List.length_singleton]; omega
  | some k =>
    obtain ⟨hkl, _⟩ := placeTx_some hp
    have h5 := cnt_cut s.2.2.2.2 k hkl
    have h6 : (s.2.2.2.2.take k ++ s.2.2.2.2.drop (k + 1)).length ≤ s.2.2.2.2.length := by simp; omega
    have h7 : (nextM (s.2.2.2.1, s.2.2.2.2, []) (kind, x, []) k).length ≤ s.2.2.2.1.length + 8 := by
      unfold nextM
      show (if kind = 2 then applyAll s.2.2.2.1 (opsAt s.2.2.2.2 k) else s.2.2.2.1).length ≤ _
      split
      · have h8 := applyAll_length s.2.2.2.1 (opsAt s.2.2.2.2 k)
        have h9 := (ok_eight (hR.recOk _ (hR.held_tx _ (List.getElem_mem hkl)).1)).1
        rw [opsAt_eq hkl] at h8 ⊢
        omega
      · omega
    simp only [List.length_singleton]
    omega
theorem decide_cnt {s : Shd} (h : Bound s) (x : Int) (y : Bool) : cntS (decideR s x y).1 ≤ 100000000 ∧ (decideR s x y).1.2.1.length ≤ 100000000 ∧ (decideR s x y).1.2.2.2.2.length ≤ 100000000 := by
  have h3 := h.cnt
  have h4 := h.log
  have h5 := h.held
  unfold decideR
  split
  · next e =>
    have hR := (shardOk_iff s).1 e
    rcases decideS_cases s x y with e2 | ⟨e2, _⟩ | ⟨e2, _⟩
    · rw [e2]; omega
    · rw [e2]; exact written_cnt h hR x _ (by split <;> decide)
    · rw [e2]; exact written_cnt h hR x 3 (by decide)
  · show cntS s ≤ 100000000 ∧ s.2.1.length ≤ 100000000 ∧ s.2.2.2.2.length ≤ 100000000
    omega
set_option maxRecDepth 100000 in
set_option maxHeartbeats 16000000 in
theorem walk (G : List Nat) (A : Nat → Addr) (la : Option Addr) (ln lc : Nat) (ma : Option Addr) (mn mc : Nat) (ha : Option Addr) (hn hc : Nat) (s : Shd) (x : Int) (y : Bool) (w : World) (h : SeeSh w la ln lc ma mn mc ha hn hc s) (hx0 : (Lit.int .i64 x).wf = true) (hy0 : True) (hK : sent.KS G A w) (hGm : 4 ∈ G) :
    Calls Tryz.prog 6 #[.agg #[.int .i64 s.1, .slice la ln lc, .int .i64 s.2.2.1, .slice ma mn mc, .slice ha hn hc], .int .i64 x, .bool y] w fun e w' => e = .returned (.bool true) ∧ Below w.heap.size w w' := by
  obtain ⟨W, hW⟩ : ∃ W, w.alloc (.cells #[.int .i64 s.1, .slice la ln lc, .int .i64 s.2.2.1, .slice ma mn mc, .slice ha hn hc] 46) = W := ⟨_, rfl⟩
  have hB : Below w.heap.size w W := by rw [← hW]; exact below_alloc
  have hA : BoxIn w.heap.size 46 [] (shVals s.1 s.2.2.1 la ln lc ma mn mc ha hn hc) [] W := by rw [← hW]; exact boxIn_new w _ _
  have hAl := hA.lt
  have hsz := szShard la ln lc ma mn mc ha hn hc s 1048576 W (h.below hB) (by omega)
  have HW := Hid.mk' hW
  have arg : ∀ wx, Below W.heap.size W wx → wx.cell? ⟨w.heap.size, 0, none⟩ = some (.int .i64 s.1) ∧ wx.cell? ⟨w.heap.size, 1, none⟩ = some (.slice la ln lc) ∧ wx.cell? ⟨w.heap.size, 2, none⟩ = some (.int .i64 s.2.2.1) ∧ wx.cell? ⟨w.heap.size, 3, none⟩ = some (.slice ma mn mc) ∧ wx.cell? ⟨w.heap.size, 4, none⟩ = some (.slice ha hn hc) := fun wx hx => by
    have a0 := (hA.below hx).cell 0 _ rfl
    have a1 := (hA.below hx).cell 1 _ rfl
    have a2 := (hA.below hx).cell 2 _ rfl
    have a3 := (hA.below hx).cell 3 _ rfl
    have a4 := (hA.below hx).cell 4 _ rfl
    simp only [List.length_nil, Nat.zero_add] at a0 a1 a2 a3 a4
    exact ⟨a0, a1, a2, a3, a4⟩
  obtain ⟨a0, a1, a2, a3, a4⟩ := arg W (Below.refl _ _)
  have ARG := Hid.mk' arg
  rw [← hW] at a0 a1 a2 a3 a4
  clear hW arg
  by_cases hover : 1048576 < szSh s
  · rw [pairs.szR_neg hover] at hsz
    have HZ := Hid.mk' hsz
    clear hsz
    go_enter Tryz.func6, Tryz.ntmps6
    go_wp2_with fail
    rw [HW.out]
    refine HZ.out.mono ?_
    rintro e wa ⟨rfl, hb⟩
    clear a0 a1 a2 a3 a4
    go_wp2_with fail
    go_ret
    exact ⟨rfl, hB.trans (hb.mono hB.size)⟩
  rw [pairs.szR_pos (by omega)] at hsz
  obtain ⟨r, hrr⟩ : ∃ r : Nat, ((1048576 : Nat) : Int) - (szSh s : Int) = (r : Int) := ⟨1048576 - szSh s, by omega⟩
  rw [hrr] at hsz
  have HZ := Hid.mk' hsz
  have hbd := bound_of (s := s) (by omega)
  obtain ⟨b1, b2, b3⟩ := SeeSh.few h hbd
  have HTO := Hid.mk' (fun wx (hx : Below W.heap.size W wx) => toShard la ln lc ma mn mc ha hn hc s wx ((h.below hB).below hx) hbd.few hbd.fewH (by omega) (by omega) (by omega))
  obtain ⟨R, hRd⟩ : ∃ R, (decideR s x y).1 = R := ⟨_, rfl⟩
  obtain ⟨rv, hrv⟩ : ∃ rv, (decideR s x y).2 = rv := ⟨_, rfl⟩
  have HS := Hid.mk' (fun (gl gm gh : Nat) (F : List Nat) wx (ho : OwnSh wx (some ⟨gl, 0, none⟩) ln ln (some ⟨gm, 0, none⟩) mn mn (some ⟨gh, 0, none⟩) hn hn s F) => spec_decide _ _ _ _ _ _ _ _ _ s x y wx ho.see hbd hx0)
  have HI := Hid.mk' (fun (gl gm gh : Nat) (F : List Nat) wx (ho : OwnSh wx (some ⟨gl, 0, none⟩) ln ln (some ⟨gm, 0, none⟩) mn mn (some ⟨gh, 0, none⟩) hn hn s F) (hkx : Below W.heap.size W wx) => impl_decide G A _ _ _ _ _ _ _ _ _ s x y wx ho.see (OwnSh.plain ho) hbd hx0 (.inr ⟨_, _, rfl⟩) ((hK.below hB).below hkx) hGm)
  have hcR : cntS R ≤ 100000000 ∧ R.2.1.length ≤ 100000000 ∧ R.2.2.2.2.length ≤ 100000000 := by rw [← hRd]; exact decide_cnt hbd x y
  rw [hRd, hrv] at HS HI
  obtain ⟨rc, rl, rh⟩ := hcR
  have hcs := hbd.cnt
  obtain ⟨sl1, sl2, sl3⟩ := SeeSh.lens h
  clear hsz hrr hover hRd hrv h sl1 sl2 sl3 hAl hK hGm
  go_enter Tryz.func6, Tryz.ntmps6
  go_wp2_with fail
  rw [HW.out]
  refine HZ.out.mono ?_
  rintro e w1a ⟨rfl, hb1a⟩
  clear a0 a1 a2 a3 a4 HZ HW
  obtain ⟨w1, hw1⟩ : ∃ w1, w1a = w1 := ⟨_, rfl⟩
  subst hw1
  have hb1 := hb1a
  obtain ⟨a0, a1, a2, a3, a4⟩ := ARG.out _ hb1
  go_wp2_with fail
  refine (HTO.out _ hb1).mono ?_
  rintro e w2 ⟨tl, tm, th, F1, rfl, hO2, hF1, hb2⟩
  have hbW2 := hb1.trans (hb2.mono hb1.size)
  obtain ⟨w2b, hw2b⟩ : ∃ w2b, w2 = w2b := ⟨_, rfl⟩
  subst hw2b
  have hbW2b := hbW2
  have HS2 := Hid.mk' (HS.out _ _ _ _ w2 hO2)
  clear a0 a1 a2 a3 a4 hO2 HS
  go_wp2_with fail
  refine HS2.out.mono ?_
  rintro e w3 ⟨wl, wln, wlc, wm, wmn, wmc, wh, whn, whc, FW, rfl, hO3, hFW, hb3⟩
  have hbW3 := hbW2b.trans (hb3.mono hbW2b.size)
  obtain ⟨v3, hv3⟩ : ∃ v3, w3.alloc (boxSh R.1 R.2.2.1 wl wln wlc wm wmn wmc wh whn whc) = v3 := ⟨_, rfl⟩
  have hc3 : Below w3.heap.size w3 v3 := by rw [← hv3]; exact below_alloc
  have hs3 : v3.heap.size = w3.heap.size + 1 := by rw [← hv3]; simp
  have hW3 := inBox_new hO3
  rw [hv3] at hW3
  have hbW4 := hbW3.trans (hc3.mono hbW3.size)
  have kW : ∀ k ∈ w3.heap.size :: FW, W.heap.size ≤ k ∧ k < v3.heap.size := fun k hk => by
    rcases List.mem_cons.1 hk with e | e
    · have := hbW3.size; omega
    · have := hFW k e; have := hO3.lt k e; have := hbW2b.size; omega
  obtain ⟨a0, a1, a2, a3, a4⟩ := ARG.out v3 hbW4
  rw [← hv3] at a0 a1 a2 a3 a4
  have HV3 := Hid.mk' hv3
  have HT3 := Hid.mk' (HTO.out v3 hbW4)
  clear HS2 hO3 hv3 hs3 hFW hF1
  go_wp2_with fail
  rw [HV3.out]
  refine HT3.out.mono ?_
  rintro e w5 ⟨xl, xm, xh, FX, rfl, hO5, hFX, hb5⟩
  have hbW5 := hbW4.trans (hb5.mono hbW4.size)
  obtain ⟨v5, hv5⟩ : ∃ v5, w5.alloc (boxSh s.1 s.2.2.1 (some ⟨xl, 0, none⟩) ln ln (some ⟨xm, 0, none⟩) mn mn (some ⟨xh, 0, none⟩) hn hn) = v5 := ⟨_, rfl⟩
  have hc5 : Below w5.heap.size w5 v5 := by rw [← hv5]; exact below_alloc
  have hs5 : v5.heap.size = w5.heap.size + 1 := by rw [← hv5]; simp
  have hX5 := inBox_new hO5
  rw [hv5] at hX5
  have hbW6 := hbW5.trans (hc5.mono hbW5.size)
  have hW5 := (hW3.below hb5).below hc5
  have kX : ∀ k ∈ w5.heap.size :: FX, v3.heap.size ≤ k ∧ k < v5.heap.size := fun k hk => by
    rcases List.mem_cons.1 hk with e | e
    · have := hb5.size; omega
    · have := hFX k e; have := hO5.lt k e; omega
  obtain ⟨x0, x1, x2, x3, x4⟩ := hX5.cells
  rw [← hv5] at x0 x1 x2 x3 x4
  have HV5 := Hid.mk' hv5
  have HI5 := Hid.mk' (HI.out _ _ _ _ v5 hX5.own hbW6)
  have hX5b := hX5
  have hW5b := hW5
  have hbW6b := hbW6
  have hb5b := Below.refl v5.heap.size v5
  clear a0 a1 a2 a3 a4 HV3 HT3 hO5 hv5 hs5 hFX hW3 hbW4 hbW5 hb5 hc5 hc3 hb3 hX5 hW5
  go_wp2_with fail
  rw [HV5.out]
  refine HI5.out.mono ?_
  rintro e w6 ⟨gl, gln, glc, gm, gmn, gmc, gh, ghn, ghc, FG, rfl, hO6, hFG, hb6⟩
  obtain ⟨v6, hv6⟩ : ∃ v6, w6.alloc (boxSh R.1 R.2.2.1 gl gln glc gm gmn gmc gh ghn ghc) = v6 := ⟨_, rfl⟩
  have hc6 : Below w6.heap.size w6 v6 := by rw [← hv6]; exact below_alloc
  have hG6 := inBox_new hO6
  rw [hv6] at hG6
  have hb66 := hb6.trans (hc6.mono hb6.size)
  have hW6 := hW5b.below hb66
  have hX6 := hX5b.below hb66
  have hbW7 := hbW6b.trans (hb66.mono hbW6b.size)
  have hv5s := hb5b.size
  have kG : ∀ k ∈ w6.heap.size :: FG, v5.heap.size ≤ k := fun k hk => by
    rcases List.mem_cons.1 hk with e | e
    · have := hb6.size; omega
    · exact hFG k e
  have hW0 : W.heap.size ≤ v3.heap.size := by have := kW _ List.mem_cons_self; omega
  have hW1 : v3.heap.size ≤ v5.heap.size := by have := kX _ List.mem_cons_self; omega
  have dXW : ∀ k ∈ w3.heap.size :: FW, k ∉ FX := fun k hk e => by have := kW k hk; have := kX k (List.mem_cons_of_mem _ e); omega
  have dXG : ∀ k ∈ w6.heap.size :: FG, k ∉ FX := fun k hk e => by have := kG k hk; have := kX k (List.mem_cons_of_mem _ e); omega
  have dGW : ∀ k ∈ w3.heap.size :: FW, k ∉ FG := fun k hk e => by have := kW k hk; have := kG k (List.mem_cons_of_mem _ e); omega
  have fX : ∀ k ∈ FX, W.heap.size ≤ k := fun k hk => by have := kX k (List.mem_cons_of_mem _ hk); omega
  have fG : ∀ k ∈ FG, W.heap.size ≤ k := fun k hk => by have := kG k (List.mem_cons_of_mem _ hk); omega
  obtain ⟨gz1, gz2, gz3⟩ := SeeSh.lens hG6.own.see
  have ggl : gln ≤ 1099511627776 := by omega
  have ggh : ghn ≤ 1099511627776 := by omega
  obtain ⟨g0, g1, g2, g3, g4⟩ := hG6.cells
  obtain ⟨c0, c1, c2, c3, c4⟩ := hW6.cells
  rw [← hv6] at g0 g1 g2 g3 g4 c0 c1 c2 c3 c4
  have HV6 := Hid.mk' hv6
  have HE6 := Hid.mk' (eqShardT _ _ _ _ _ _ _ _ _ _ _ _ _ _ _ _ _ _ R v6 hG6.own.see hW6.own.see)
  have hrr0 : (rv != rv) = false := by simp
  clear x0 x1 x2 x3 x4 HI5 hO6 hv6 hFG hW5b hX5b hbW6 hbW6b hb6 hc6 hb66 hb5b kW kX kG hW0 hW1 gz1 gz2 gz3 HV5
  go_wp2_with fail
  rw [HV6.out]
  refine HE6.out.mono ?_
  rintro e w7 ⟨rfl, hb7⟩
  have hG7 := hG6.below hb7
  have hW7 := hW6.below hb7
  have hX7 := hX6.below hb7
  have hbW8 := hbW7.trans (hb7.mono hbW7.size)
  obtain ⟨x0, x1, x2, x3, x4⟩ := hX7.cells
  obtain ⟨a0, a1, a2, a3, a4⟩ := ARG.out w7 hbW8
  clear g0 g1 g2 g3 g4 c0 c1 c2 c3 c4 HV6 HE6 hG6 hW6 hX6 hbW7 hb7
  have hdr : Below w7.heap.size w7 w7.drew := (Below.refl _ _).drew
  have hbWd := hbW8.trans (hdr.mono hbW8.size)
  go_wp2_with fail
  go_region_held3 (fun w' => (w'.cell? ⟨w5.heap.size, 0, none⟩ = some (.int .i64 s.1) ∧ w'.cell? ⟨w5.heap.size, 1, none⟩ = some (.slice (some ⟨xl, 0, none⟩) ln ln) ∧ w'.cell? ⟨w5.heap.size, 2, none⟩ = some (.int .i64 s.2.2.1) ∧ w'.cell? ⟨w5.heap.size, 3, none⟩ = some (.slice (some ⟨xm, 0, none⟩) mn mn) ∧ w'.cell? ⟨w5.heap.size, 4, none⟩ = some (.slice (some ⟨xh, 0, none⟩) hn hn) ∧ w'.cell? ⟨w.heap.size, 0, none⟩ = some (.int .i64 s.1) ∧ w'.cell? ⟨w.heap.size, 1, none⟩ = some (.slice la ln lc) ∧ w'.cell? ⟨w.heap.size, 2, none⟩ = some (.int .i64 s.2.2.1) ∧ w'.cell? ⟨w.heap.size, 3, none⟩ = some (.slice ma mn mc) ∧ w'.cell? ⟨w.heap.size, 4, none⟩ = some (.slice ha hn hc))) (first | (exact keep10 hb9 (by assumption)) | (exact keep10 hb8 (by assumption)) | (go_keep)) (first | (go_at_call 22; have h9 := hb8; refine (eqShardT _ _ _ _ _ _ _ _ _ _ _ _ _ _ _ _ _ _ s _ (hX7.below (hdr.trans (hb8.mono hdr.size))).own.see HO8.out.see).mono ?_; rintro e w9 ⟨rfl, hb9⟩) | (go_at_call 20; refine (HTO.out _ hbWd).mono ?_; rintro e w8 ⟨yl, ym, yh, F3, rfl, hO8, hF8, hb8⟩; have HO8 := Hid.mk' hO8))
  have hb79 := (hdr.trans (hb8.mono hdr.size)).trans (hb9.mono (Nat.le_trans hdr.size hb8.size))
  have hG9 := hG7.below hb79
  have hW9 := hW7.below hb79
  have hX9 := hX7.below hb79
  have hbW9 := hbW8.trans (hb79.mono hbW8.size)
  clear x0 x1 x2 x3 x4 a0 a1 a2 a3 a4 hdr hbWd hb8 hb9 hb79 hO8 HO8 hF8 hG7 hW7 hX7 hbW8
  obtain ⟨w9c, hw9c⟩ : ∃ w9c, w9 = w9c := ⟨_, rfl⟩
  subst hw9c
  have hG9c := hG9
  have hW9c := hW9
  have hX9c := hX9
  have hbW9c := hbW9
  have HM9 := Hid.mk' (markShard _ _ _ _ _ _ _ _ _ s FX 1 w9 hX9c.own (by omega) (by omega) (by omega) (by omega) 1 (by show _ = _; rfl))
  obtain ⟨x0, x1, x2, x3, x4⟩ := hX9c.cells
  go_wp2_with fail
  refine HM9.out.mono ?_
  rintro e w10 ⟨rfl, hOx, hf10⟩
  have hG10 := hG9c.framed hf10 (dXG _ List.mem_cons_self) (fun k hk => dXG k (List.mem_cons_of_mem _ hk))
  have hW10 := hW9c.framed hf10 (dXW _ List.mem_cons_self) (fun k hk => dXW k (List.mem_cons_of_mem _ hk))
  have hbW10 := hbW9c.trans (hf10.bel hbW9c.size fX)
  obtain ⟨w10b, hw10b⟩ : ∃ w10b, w10 = w10b := ⟨_, rfl⟩
  subst hw10b
  have hG10b := hG10
  have hW10b := hW10
  have hbW10b := hbW10
  have hnn : ¬ ((1 + cntS s : Nat) : Int) < 0 := by omega
  have HE10 := Hid.mk' (eqShardT _ _ _ _ _ _ _ _ _ _ _ _ _ _ _ _ _ _ R w10 hG10b.own.see hW10b.own.see)
  clear x0 x1 x2 x3 x4 HM9 hOx hf10 hG9c hW9c hX9c hbW9c
  obtain ⟨g0, g1, g2, g3, g4⟩ := hG10b.cells
  obtain ⟨c0, c1, c2, c3, c4⟩ := hW10b.cells
  go_wp2_with fail
  refine HE10.out.mono ?_
  rintro e w11 ⟨rfl, hb11⟩
  have hG11 := hG10b.below hb11
  have hW11 := hW10b.below hb11
  have hbW11 := hbW10b.trans (hb11.mono hbW10b.size)
  have HM11 := Hid.mk' (markShard _ _ _ _ _ _ _ _ _ R FG 1 w11 hG11.own (by omega) (by omega) ggl ggh 1 (by show _ = _; rfl))
  clear g0 g1 g2 g3 g4 c0 c1 c2 c3 c4 HE10 hG10b hW10b hbW10b hb11
  obtain ⟨g0, g1, g2, g3, g4⟩ := hG11.cells
  go_wp2_with fail
  refine HM11.out.mono ?_
  rintro e w12 ⟨rfl, hOg, hf12⟩
  have hW12 := hW11.framed hf12 (dGW _ List.mem_cons_self) (fun k hk => dGW k (List.mem_cons_of_mem _ hk))
  have hbg12 := hG11.box.frame hf12 hG11.out
  have hG12 : InBox w12 w6.heap.size gl gln glc gm gmn gmc gh ghn ghc (mShd 1 R) FG := ⟨hbg12, hOg, hG11.out⟩
  have hbW12 := hbW11.trans (hf12.bel hbW11.size fG)
  have HD := Hid.mk' (fun wx (hx : SeeSh wx gl gln glc gm gmn gmc gh ghn ghc (mShd 1 R)) => heldShard _ _ _ _ _ _ _ _ _ R 1 wx hx (by omega) (by omega) ggl ggh 1 (by show _ = _; rfl))
  have HD12 := Hid.mk' (HD.out _ hG12.own.see)
  have hnm : ¬ ((1 + cntS R : Nat) : Int) < 0 := by omega
  have hmm : (((1 + cntS R : Nat) : Int) != ((1 + cntS R : Nat) : Int)) = false := by simp
  clear g0 g1 g2 g3 g4 HM11 hOg hf12 hG11 hW11 hbW11 hbg12 hnn
  have CG := Hid.mk' (fun wx (hx : InBox wx w6.heap.size gl gln glc gm gmn gmc gh ghn ghc (mShd 1 R) FG) => hx.cells)
  obtain ⟨g0, g1, g2, g3, g4⟩ := CG.out _ hG12
  have e1 : (mShd 1 R).1 = R.1 := rfl
  have e2 : (mShd 1 R).2.2.1 = R.2.2.1 := rfl
  rw [e1] at g0
  rw [e2] at g2
  go_wp2_with fail
  refine HD12.out.mono ?_
  rintro e w13 ⟨rfl, hb13⟩
  have hG13 := hG12.below hb13
  have hW13 := hW12.below hb13
  have hbW13 := hbW12.trans (hb13.mono hbW12.size)
  clear g0 g1 g2 g3 g4 HD12 hG12 hW12 hbW12 hb13
  obtain ⟨a0, a1, a2, a3, a4⟩ := ARG.out w13 hbW13
  go_wp2_with fail
  refine (HTO.out _ hbW13).mono ?_
  rintro e w14 ⟨zl, zm, zh, FZ, rfl, hO14, hFZ, hb14⟩
  have hG14 := hG13.below hb14
  have hW14 := hW13.below hb14
  have hbW14 := hbW13.trans (hb14.mono hbW13.size)
  have HI14 := Hid.mk' (HI.out _ _ _ _ w14 hO14 hbW14)
  have hG14b := hG14
  have hW14b := hW14
  have hbW14b := hbW14
  clear a0 a1 a2 a3 a4 hG13 hW13 hbW13 hb14 HI hO14
  go_wp2_with fail
  refine HI14.out.mono ?_
  rintro e w15 ⟨hl, hln, hlc, hm, hmn, hmc, hh, hhn, hhc, FH, rfl, hO15, hFH, hb15⟩
  obtain ⟨v15, hv15⟩ : ∃ v15, w15.alloc (boxSh R.1 R.2.2.1 hl hln hlc hm hmn hmc hh hhn hhc) = v15 := ⟨_, rfl⟩
  have hc15 : Below w15.heap.size w15 v15 := by rw [← hv15]; exact below_alloc
  have hH15 := inBox_new hO15
  rw [hv15] at hH15
  have hb1515 := hb15.trans (hc15.mono hb15.size)
  have hG15 := hG14b.below hb1515
  have hW15 := hW14b.below hb1515
  have hbW15 := hbW14b.trans (hb1515.mono hbW14b.size)
  have HE15 := Hid.mk' (eqShardT _ _ _ _ _ _ _ _ _ _ _ _ _ _ _ _ _ _ R v15 hH15.own.see hW15.own.see)
  obtain ⟨p0, p1, p2, p3, p4⟩ := hH15.cells
  obtain ⟨c0, c1, c2, c3, c4⟩ := hW15.cells
  rw [← hv15] at p0 p1 p2 p3 p4 c0 c1 c2 c3 c4
  have HV15 := Hid.mk' hv15
  clear HI14 hO15 hv15 hFH hFZ hG14b hW14b hbW14b hb15 hc15 hb1515 hH15
  go_wp2_with fail
  rw [HV15.out]
  refine HE15.out.mono ?_
  rintro e w16 ⟨rfl, hb16⟩
  have hG16 := hG15.below hb16
  have hbW16 := hbW15.trans (hb16.mono hbW15.size)
  have HD16 := Hid.mk' (HD.out _ hG16.own.see)
  clear p0 p1 p2 p3 p4 c0 c1 c2 c3 c4 HE15 HV15 hG15 hW15 hbW15 hb16 HD
  obtain ⟨g0, g1, g2, g3, g4⟩ := CG.out _ hG16
  rw [e1] at g0
  rw [e2] at g2
  go_wp2_with fail
  refine HD16.out.mono ?_
  rintro e w17 ⟨rfl, hb17⟩
  have hB17 := hB.trans ((hbW16.trans (hb17.mono hbW16.size)).mono hB.size)
  clear g0 g1 g2 g3 g4 HD16 hG16 hbW16 hb17
  go_wp2_with fail
  go_ret
  exact ⟨rfl, hB17⟩

abbrev laidS : List (String × DataW Unit) := [("loop.example/g00244/impl.errForm", Rows.laid_loop_example_g00244_impl_errForm), ("loop.example/g00244/impl.errHeld", Rows.laid_loop_example_g00244_impl_errHeld), ("loop.example/g00244/impl.errDone", Rows.laid_loop_example_g00244_impl_errDone), ("loop.example/g00244/impl.errGone", Rows.laid_loop_example_g00244_impl_errGone), ("loop.example/g00244/impl.errNone", Rows.laid_loop_example_g00244_impl_errNone), ("loop.example/g00244/impl.errRoom", Rows.laid_loop_example_g00244_impl_errRoom)]
abbrev lst : List (String × Nat × List UInt8) := [("loop.example/g00244/impl.errForm", 2, [110, 111, 116, 32, 97, 115, 32, 105, 116, 32, 109, 117, 115, 116, 32, 98, 101]), ("loop.example/g00244/impl.errHeld", 6, [104, 101, 108, 100, 32, 97, 108, 114, 101, 97, 100, 121]), ("loop.example/g00244/impl.errDone", 0, [100, 111, 110, 101, 32, 97, 108, 114, 101, 97, 100, 121]), ("loop.example/g00244/impl.errGone", 1, [103, 111, 110, 101, 32, 97, 108, 114, 101, 97, 100, 121]), ("loop.example/g00244/impl.errNone", 3, [110, 111, 32, 114, 101, 99, 111, 114, 100, 32, 104, 97, 115, 32, 105, 116]), ("loop.example/g00244/impl.errRoom", 4, [110, 111, 32, 114, 111, 111, 109, 32, 102, 111, 114, 32, 105, 116])]
theorem known {W : World} (h : laidMetH Tryz.prog laidS W) : ∃ A, sent.KS (lst.map fun x => x.2.1) A W := by
  rw [MakeChecks.laidMetH_plain _ _ _ (by kernel_rfl)] at h
  refine sent.ks_of_laid lst h (fun x hx => ?_) (by decide) (by decide)
  have hm : ([("loop.example/g00244/impl.errForm", 2, [110, 111, 116, 32, 97, 115, 32, 105, 116, 32, 109, 117, 115, 116, 32, 98, 101]), ("loop.example/g00244/impl.errHeld", 6, [104, 101, 108, 100, 32, 97, 108, 114, 101, 97, 100, 121]), ("loop.example/g00244/impl.errDone", 0, [100, 111, 110, 101, 32, 97, 108, 114, 101, 97, 100, 121]), ("loop.example/g00244/impl.errGone", 1, [103, 111, 110, 101, 32, 97, 108, 114, 101, 97, 100, 121]), ("loop.example/g00244/impl.errNone", 3, [110, 111, 32, 114, 101, 99, 111, 114, 100, 32, 104, 97, 115, 32, 105, 116]), ("loop.example/g00244/impl.errRoom", 4, [110, 111, 32, 114, 111, 111, 109, 32, 102, 111, 114, 32, 105, 116])] : List (String × Nat × List UInt8)).all (fun x => decide (Tryz.prog.globalNamed x.1 = some x.2.1) && decide ((Tryz.prog.globals[x.2.1]?).map (·.type) = some 65)) = true := by kernel_rfl
  have := List.all_eq_true.1 hm x hx
  simp only [Bool.and_eq_true, decide_eq_true_iff] at this
  exact this
theorem own : ownKnob Tryz.prog.godebug = none := by kernel_rfl
theorem laidOut : laidOutB Tryz.prog = true := by kernel_rfl
set_option maxRecDepth 100000 in
theorem lifted (os : Os) (started : os.Started) (H : Type) (enc : TypeId × Value → H) :
    ReturnsInHanded {} Tryz.checked os 6 .any (fun w args => (Rows.fnExactDecideSpec.pre enc Tryz.prog Tryz.f6 [] false w args ∧ laidMetH Tryz.prog laidS w) ∧ sizedMet enc Tryz.prog Tryz.f6 (OpenSpec.ofChange Rows.fnExactDecideSpec) false w args)
      (Rows.fnExactDecideSpec.post enc Tryz.prog Tryz.f6 false true false false) := by
  refine returnsInHanded_of_change_and (C := Tryz.checked) (X := fun w _ => laidMetH Tryz.prog laidS w) (fun _ _ _ hh h => h.of_heap hh) own started (by kernel_rfl) Tryz.func6
    (ChangeSpec.witness_shaped (enc := enc) (C := Tryz.checked) (os := os) (X := fun w _ => laidMetH Tryz.prog laidS w) false (World.laidAll Tryz.prog os laidS) #[.agg #[.int .i64 0, .slice none 0 0, .int .i64 0, .slice none 0 0, .slice none 0 0], .int .i64 0, .bool false] 70 (World.laidAll_os _ _ _) (World.shaped_of_ZipB (by kernel_rfl) (by kernel_rfl)) (by kernel_rfl) (by kernel_rfl) (by kernel_rfl)
      (by rw [MakeChecks.laidMetH_plain _ _ _ (by kernel_rfl)]; exact laidMet_laidAll _ (by kernel_rfl) (by kernel_rfl))) ?_
  intro W base args ds gs before hval0 hW _ _ hL _
  have hval : ∀ (j : Nat) t v, Tryz.f6.params[j]? = some t → args[j]? = some v → Value.okWide Tryz.prog W .any base t v := hval0
  have hW' := hW
  obtain ⟨p, q, hA0, hV, rfl, hfz, hnd⟩ := hW
  have hA : DataW.TrodAll enc Tryz.prog W 0 (fun _ => true) true Tryz.f6.params.toList args.toList ds p := hA0
  rw [Tryz.params6] at hA hval
  obtain ⟨v0, vs0, d0, ds0, p0, q0, hargs, rfl, rfl, h0, r0⟩ := trodAll_cons hA
  obtain ⟨v1, vs1, d1, ds1, p1, q1, rfl, rfl, rfl, h1, r1⟩ := trodAll_cons r0
  obtain ⟨v2, vs2, d2, ds2, p2, q2, rfl, rfl, rfl, h2, r2⟩ := trodAll_cons r1
  obtain ⟨rfl, rfl, rfl⟩ := trodAll_nil r2
  obtain rfl : args = #[v0, v1, v2] := by cases args; simp_all
  obtain ⟨gv0, gv1, gv2, gv3, gv4, gv5, rfl⟩ : ∃ gv0 gv1 gv2 gv3 gv4 gv5, gs = [gv0, gv1, gv2, gv3, gv4, gv5] := by
    have hl := sent.vars_len _ _ _ hV
    match gs, hl with
    | [gv0, gv1, gv2, gv3, gv4, gv5], _ => exact ⟨gv0, gv1, gv2, gv3, gv4, gv5, rfl⟩
  have k0 := h0
  have lt0 : ∀ x ∈ p0, x.block < W.heap.size := by obtain ⟨m, hm⟩ := k0; exact DataW.trod_lt m _ _ _ hm
  obtain ⟨la0, ln0, lc0, ma0, mn0, mc0, ha0, hn0, hc0, b0, rfl, w0⟩ : ∃ (la : Option Addr) (ln lc : Nat) (ma : Option Addr) (mn mc : Nat) (ha : Option Addr) (hn hc : Nat) (s : recs.Shd), v0 = .agg #[.int .i64 s.1, .slice la ln lc, .int .i64 s.2.2.1, .slice ma mn mc, .slice ha hn hc] ∧ lay.SeeSh W la ln lc ma mn mc ha hn hc s := by obtain ⟨fuel, hf⟩ := h0; exact recs.shard_arg 46 _ _ _ _ _ Tryz.underlying46 (by kernel_rfl) rfl rfl rfl rfl rfl rfl rfl rfl rfl rfl (by kernel_rfl) (by kernel_rfl) (by kernel_rfl) (fun hq => recs.slr_arg 43 133 _ _ _ Tryz.underlying43 Tryz.underlying133 (by kernel_rfl) rfl rfl rfl rfl rfl rfl (by kernel_rfl) (by kernel_rfl) _ _ _ Tryz.underlying91 (by kernel_rfl) rfl rfl rfl rfl rfl rfl (by kernel_rfl) hq) (fun hq => slp_arg 44 135 _ _ Tryz.underlying44 Tryz.underlying135 (by kernel_rfl) rfl rfl rfl rfl (by kernel_rfl) hq) (hval 0 46 v0 rfl rfl) hf
  obtain ⟨a1, rfl, rfl, rfl, w1⟩ := open_int Tryz.underlying3 (hval 1 3 v1 rfl rfl) h1
  obtain ⟨a2, rfl, rfl, rfl⟩ := open_bool Tryz.underlying4 (hval 2 4 v2 rfl rfl) h2
  have w2 : True := trivial
  clear hA0 hval0
  obtain ⟨A, hKS⟩ := known hL
  refine (walk _ A la0 ln0 lc0 ma0 mn0 mc0 ha0 hn0 hc0 b0 a1 a2 W w0 w1 w2 hKS (by decide)).mono fun e W' ⟨he, bel⟩ => ?_
  subst he
  exact ⟨_, rfl, _, _, _, [], _, _, hW', trodAll_mk1 (shut_bool Tryz.underlying4 _), (trodAll_cons_mk (Below.trod laidOut (by kernel_rfl) (of_decide_eq_true (by kernel_rfl)) k0 bel lt0) (trodAll_cons_mk (shut_int Tryz.underlying3 w1) (trodAll_cons_mk (shut_bool Tryz.underlying4 a2) trodAll_mk0))), bel.trodVars laidOut (by kernel_rfl) hV, bel.frame _, fun h => by cases h⟩

theorem over : Rows.fnExactDecideRow.holds Tryz.pinned (OpenSpec.ofChange Rows.fnExactDecideSpec) :=
  OpenClaim.holds_of_wide 6 Tryz.f6 rfl rfl rfl rfl rfl rfl rfl ⟨rfl, rfl, rfl, rfl, rfl⟩ rfl rfl rfl rfl rfl (by kernel_rfl) Tryz.func6 (by kernel_rfl)
    (of_decide_eq_true (by kernel_rfl)) (by unfold Func.isWrapper; first | (rw [if_pos (by decide +kernel)]; kernel_rfl) | (rw [if_neg (by decide +kernel)]; exact ⟨rfl, rfl⟩))
    (fun os started H enc _ => lifted os started H enc)

theorem proved : Rows.FnExactDecideCardSaid :=
  Claim7.holds_tied_plain_at .later [] [.sentinel, .sentinel, .sentinel, .sentinel, .sentinel, .sentinel] true (true, "a9f3674d40d76233e7d890a81897f4caed00ec5ecb9068bc00f18ba4f1df9bde") true
    over (fun _ h => by cases h) (by kernel_rfl) (fun _ h => by cases h) fnExactDecide_row_tie rfl ⟨rfl, rfl⟩ (by kernel_rfl) rfl
    (fun f fn hf hfn => by
      obtain rfl : f = 6 := Option.some.inj ((show Tryz.prog.funcNamed "loop.example/g00244/laws.FnExactDecide" = some 6 by kernel_rfl).symm.trans hf) |>.symm
      obtain rfl : fn = Tryz.f6 := (Option.some.inj (Tryz.func6.symm.trans hfn)).symm
      exact ⟨by kernel_rfl, fun j t ht => by
        rw [Tryz.params6] at ht
        have hm : t ∈ [46, 3, 4] := by simpa using Array.mem_of_getElem? ht
        have hall : ([46, 3, 4].all fun u => !Tryz.prog.wantsStandIn u) = true := by kernel_rfl
        exact (show Tryz.prog.wantsStandIn t = false by simpa using List.all_eq_true.1 hall t hm)⟩)
    (by kernel_rfl)
end Go.Proofs.YteniflajiklffaaGreatDoor.fnExactDecide
