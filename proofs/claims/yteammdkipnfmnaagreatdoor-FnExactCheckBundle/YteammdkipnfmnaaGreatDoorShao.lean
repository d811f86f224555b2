/- The laws' marks on proofs and bundles. The laws' marks on bundles. Rows of pairs that a law made, kept from step to step; arguments that are pairs, opened. The program's turns of words. The program's words of a block. Plain mathematics of the program's way to turn a block: sixteen words that are turned in place. -/
import Derived.Test.YteammdkipnfmnaaGreatDoorSham
import Derived.Test.YteammdkipnfmnaaGreatDoorShan
import Derived.Test.YteammdkipnfmnaaGreatDoorShaj
import Derived.Test.YteammdkipnfmnaaGreatDoorShal
import Derived.Deep.SlicePairs
import Derived.ChangeArms
import Derived.Test.YteammdkipnfmnaaGreatDoorShaa
import Derived.Test.YteammdkipnfmnaaGreatDoorShah
namespace Go.Proofs.YteammdkipnfmnaaGreatDoor.bun
open Go Go.RowKit Go.Proofs.YteammdkipnfmnaaGreatDoor.base Go.Proofs.YteammdkipnfmnaaGreatDoor.pairs Go.Proofs.YteammdkipnfmnaaGreatDoor.lay Go.Proofs.YteammdkipnfmnaaGreatDoor.range Go.Proofs.YteammdkipnfmnaaGreatDoor.seals
set_option linter.unusedVariables false
set_option linter.unusedSimpArgs false

def cntF (x : Pf) : Nat := 2 + cnt x.2.2
def mF (k : Nat) (x : Pf) : Pf := ((k : Int), ((k + 1 : Nat) : Int), markI (k + 2) x.2.2)
section
variable {w w' : World} {us : List Value} {x : Pf} {F : List Nat}
theorem proof_parts (h : proofR.own w us x F) : ∃ ra rn rc, us = [.int .i64 x.1, .int .i64 x.2.1, .slice ra rn rc] ∧ (Lit.int .i64 x.1).wf = true ∧ (Lit.int .i64 x.2.1).wf = true ∧ itemsR.own w [.slice ra rn rc] x.2.2 F := by
  obtain ⟨v, rfl, k1, k2, h4⟩ := proof_own.1 h
  obtain ⟨v', hs, e, rfl, hI⟩ := id h4
  cases e
  rcases hI.shape with ⟨rfl, _, _⟩ | ⟨g, cap, rfl, _, _⟩
  · exact ⟨_, _, _, rfl, k1, k2, h4⟩
  · exact ⟨_, _, _, rfl, k1, k2, h4⟩
theorem proof_set0 {k : Int} (hk : (Lit.int .i64 k).wf = true) (h : proofR.own w us x F) : proofR.own w (us.set 0 (.int .i64 k)) (k, x.2.1, x.2.2) F := by
  obtain ⟨v, rfl, k1, k2, h4⟩ := proof_own.1 h
  exact proof_own.2 ⟨v, rfl, hk, k2, h4⟩
theorem proof_set1 {k : Int} (hk : (Lit.int .i64 k).wf = true) (h : proofR.own w us x F) : proofR.own w (us.set 1 (.int .i64 k)) (x.1, k, x.2.2) F := by
  obtain ⟨v, rfl, k1, k2, h4⟩ := proof_own.1 h
  exact proof_own.2 ⟨v, rfl, k1, hk, h4⟩
end
theorem markItems_R (v : Value) (l : List It) (F : List Nat) (k0 : Nat) (w : World) (h : itemsR.own w [v] l F) (hk1 : 1 ≤ k0) (hk0 : k0 + cnt l ≤ 1099511627776) (hll : l.length ≤ 1099511627776) :
    Calls Tryz.prog 83 #[v, .int .i64 (k0 : Nat)] w fun e w' => e = .returned (.int .i64 ((k0 + cnt l : Nat) : Int)) ∧ itemsR.own w' [v] (markI k0 l) F ∧ lay.Frame F w w' := by
  obtain ⟨v', hs, e, rfl, hI⟩ := h
  cases e
  refine (markItemS v 0 k0 l hs w hI (Nat.zero_le _) hk1 hk0 hll).mono ?_
  rintro e w' ⟨rfl, hO, hK⟩
  exact ⟨rfl, ⟨v, hs, rfl, rfl, hO⟩, hK.os, hK.tape, hK.output, hK.size, fun j hj hn => hK.block j hj (fun e => hn (mem_blkI.2 e))⟩
set_option maxRecDepth 100000 in
set_option maxHeartbeats 4000000 in
theorem markProofS (g n cap : Nat) (l : List Pf) (q : Parts) (k0 : Nat) (w : World) (h : OwnG 64 proofR w (.slice (some ⟨g, 0, none⟩) n cap) l q) (hk1 : 1 ≤ k0) (hk : k0 + cntAll cntF l ≤ 1099511627776) (hll : ∀ x ∈ l, x.2.2.length ≤ 1099511627776) :
    Calls Tryz.prog 46 #[.slice (some ⟨g, 0, none⟩) n cap, .int .i64 (k0 : Int)] w fun e w' => e = .returned (.int .i64 ((k0 + cntAll cntF l : Nat) : Int)) ∧ ∃ q', OwnG 64 proofR w' (.slice (some ⟨g, 0, none⟩) n cap) (markRow mF cntF k0 l) q' ∧ blocksOf q' = blocksOf q ∧ lay.Frame (g :: blocksOf q) w w' := by
  have hnl := h.nlen
  subst hnl
  have hlm : l.length ≤ maxLen := by rcases h.shape with ⟨e, _⟩ | ⟨_, _, _, h1, h2⟩; cases e; omega
  unfold maxLen at hlm
  have HLX := Hid.mk' hll
  clear hll
  go_enter Tryz.func46, Tryz.ntmps46
  go_wp2_with fail
  go_loopw [5, 1] (fun iv kv wr => ∃ (i : Nat) (q' : Parts), i ≤ l.length ∧ iv = .int .i64 (i : Int) ∧ kv = .int .i64 ((k0 + cntTo cntF l i : Nat) : Int) ∧ OwnG 64 proofR wr (.slice (some ⟨g, 0, none⟩) l.length cap) (mapTo (markF mF cntF k0 l) l i) q' ∧ blocksOf q' = blocksOf q ∧ lay.Frame (g :: blocksOf q) w wr) (fun iv _ _ => l.length - (intOf iv).toNat)
  case atStart => exact ⟨0, q, Nat.zero_le _, rfl, by rw [cntTo_zero]; rfl, by rw [mapTo_zero]; exact h, rfl, lay.Frame.refl _ _⟩
  case round =>
    obtain ⟨i, q', hi, rfl, rfl, hO, hq, hFr⟩ := hrel
    by_cases hlt : i < l.length
    · have hii : (i : Int) < (l.length : Int) := by omega
      obtain ⟨L, hL⟩ : ∃ L, mapTo (markF mF cntF k0 l) l i = L := ⟨_, rfl⟩
      have HLL : Hid (L.length = l.length) := by show _ = _; rw [← hL, mapTo_length]
      have hLi : i < L.length := by rw [HLL.out]; exact hlt
      have HLat : Hid (L[i] = l[i]) := by show _ = _; have := mapTo_at (markF mF cntF k0 l) i hlt; simp only [hL] at this; exact this
      have HSET : Hid (L.set i (markF mF cntF k0 l i l[i]) = mapTo (markF mF cntF k0 l) l (i + 1)) := by show _ = _; rw [← hL]; exact mapTo_set _ i hlt
      rw [hL] at hO
      have HCS := Hid.mk' (cntTo_succ cntF l i hlt)
      have hcl := cntTo_le cntF l (i + 1)
      obtain ⟨K, hK⟩ : ∃ K, k0 + cntTo cntF l i = K := ⟨_, rfl⟩
      have HMF : Hid (markF mF cntF k0 l i l[i] = mF K l[i]) := by show _ = _; unfold markF; rw [hK]
      rw [HCS.out] at hcl
      have hcj : K + cntF l[i] ≤ k0 + cntAll cntF l := by omega
      have HKN : Hid (K + cntF l[i] = k0 + cntTo cntF l (i + 1)) := by show _ = _; rw [HCS.out]; omega
      simp only [hK]
      have hK1 : 1 ≤ K := by omega
      have hxl := HLX.out l[i] (List.getElem_mem hlt)
      clear hL hcl hK
      rw [HMF.out] at HSET
      have HJ : Hid (mF K l[i] = ((K : Int), ((K + 1 : Nat) : Int), markI (K + 2) l[i].2.2)) := rfl
      have hcn : cntF l[i] = 2 + cnt l[i].2.2 := rfl
      generalize l[i] = x at *
      obtain ⟨pn, pf, its⟩ := x
      simp only [] at HJ hcn hxl
      obtain ⟨tot, htot⟩ : ∃ t, cntAll cntF l = t := ⟨_, rfl⟩
      rw [htot] at hcj hk
      have hKb : K + 2 + cnt its ≤ 1099511627776 := by omega
      have e1 : ((K + 1 : Nat) : Int) = (K : Int) + 1 := by omega
      rw [e1] at HJ
      clear e1
      have HKI : Hid (((K : Nat) : Int) + 1 + 1 = ((K + 2 : Nat) : Int)) := by show _ = _; omega
      have w0 : (Lit.int .i64 (K : Int)).wf = true := WalkArith.wf_i64 (by omega)
      have w1 : (Lit.int .i64 ((K : Int) + 1)).wf = true := WalkArith.wf_i64 (by omega)
      obtain ⟨us, F, hx, hc, _, _⟩ := hO.open i hLi
      rw [HLat.out] at hx
      obtain ⟨oa, ol, oc, rfl, _⟩ := proof_parts hx
      have c0 := hc 0 _ rfl
      have f0 := hO.frozen (i * 3)
      obtain ⟨q1, hO1, hq1, hg1⟩ := hO.cell1 i hLi 0 (by decide) (.int .i64 (K : Int)) ((K : Int), pf, its) (fun vs F hv => by rw [HLat.out] at hv; exact proof_set0 w0 hv)
      rw [show i * proofR.size + 0 = i * 3 from rfl] at hO1 hg1 c0
      have hFr1 := hFr.grown hg1 (fun k e => by cases e; exact .inl (by simp))
      have hL1 : i < (L.set i ((K : Int), pf, its)).length := by simpa using hLi
      obtain ⟨us1, F1, hx1, hc1, _, _⟩ := hO1.open i hL1
      rw [set_at hLi] at hx1
      obtain ⟨oa1, ol1, oc1, rfl, _⟩ := proof_parts hx1
      have c1 := hc1 1 _ rfl
      have f1 := hO1.frozen (i * 3 + 1)
      obtain ⟨q2, hO2, hq2, hg2⟩ := hO1.cell1 i hL1 1 (by decide) (.int .i64 ((K : Int) + 1)) ((K : Int), (K : Int) + 1, its) (fun vs F hv => by rw [set_at hLi] at hv; exact proof_set1 w1 hv)
      rw [show i * proofR.size + 1 = i * 3 + 1 from rfl] at hO2 hg2 c1
      rw [List.set_set] at hO2
      have hFr2 := hFr1.grown hg2 (fun k e => by cases e; exact .inl (by simp))
      have hL2 : i < (L.set i ((K : Int), (K : Int) + 1, its)).length := by simpa using hLi
      obtain ⟨us3, G, hx3, hc3, hG3, bk3⟩ := hO2.open i hL2
      rw [set_at hLi] at hx3
      obtain ⟨oa3, ol3, oc3, rfl, k1a, k2a, hop3⟩ := proof_parts hx3
      have d2 := hc3 2 _ rfl
      rw [show i * proofR.size + 2 = i * 3 + 2 from rfl] at d2
      have HMO := Hid.mk' (markItems_R (.slice oa3 ol3 oc3) its G (K + 2) _ hop3 (by omega) (by omega) hxl)
      have HBK := Hid.mk' bk3
      have HGB := Hid.mk' hG3
      clear hO hx hc hO1 hx1 hc1 hO2 hx3 hc3 bk3 hop3 hG3 hg1 hg2 hFr1
      go_wp2_with fail
      rw [HKI.out]
      refine HMO.out.mono ?_
      rintro e w5 ⟨rfl, hop5, hf5⟩
      have hO5 := HBK.out w5 ((K : Int), (K : Int) + 1, markI (K + 2) its) G hf5 (fun k hk => hk) (proof_own.2 ⟨_, rfl, k1a, k2a, hop5⟩)
      rw [List.set_set, ← HJ.out, HSET.out] at hO5
      have hFr5 := hFr2.trans hf5 (fun k hk => .inl (List.mem_cons_of_mem _ (by rw [← hq, ← hq1, ← hq2]; exact HGB.out k hk)))
      have HO6 := Hid.mk' hO5
      have HFR := Hid.mk' hFr5
      have HQ6 : Hid (blocksOf q2 = blocksOf q) := hq2.trans (hq1.trans hq)
      have HK6 : Hid (((K + 2 + cnt its : Nat) : Int) = ((k0 + cntTo cntF l (i + 1) : Nat) : Int)) := by show _ = _; rw [← HKN.out, hcn]; omega
      clear hO5 hop5 hf5 hFr2 hFr5 HBK HMO c0 c1 d2 f0 f1
      go_wp2_with fail
      go_roundw
      case rel => exact ⟨i + 1, q2, by omega, by go_num, congrArg (Value.int .i64) HK6.out, HO6.out, HQ6.out, HFR.out⟩
      case measure => simp [intOf]; omega
    · have he : i = l.length := by omega
      subst he
      rw [mapTo_all] at hO
      rw [cntTo_all]
      go_wp2_with fail
      go_ret
      exact ⟨rfl, q', hO, hq, hFr⟩
def mB (k : Nat) (x : Bun) : Bun := (x.1, x.2.1, helps.markS k x.2.2.1.length, markRow mF cntF (k + x.2.2.1.length) x.2.2.2)
def cntB (x : Bun) : Nat := x.2.2.1.length + cntAll cntF x.2.2.2
end Go.Proofs.YteammdkipnfmnaaGreatDoor.bun

namespace Go.Proofs.YteammdkipnfmnaaGreatDoor.bun
open Go Go.RowKit Go.Proofs.YteammdkipnfmnaaGreatDoor.base Go.Proofs.YteammdkipnfmnaaGreatDoor.pairs Go.Proofs.YteammdkipnfmnaaGreatDoor.lay Go.Proofs.YteammdkipnfmnaaGreatDoor.range Go.Proofs.YteammdkipnfmnaaGreatDoor.seals
set_option linter.unusedVariables false
set_option linter.unusedSimpArgs false

set_option maxRecDepth 100000 in
theorem nil_markStringS (K : Int) (w : World) : Calls Tryz.prog 45 #[.slice none 0 0, .int .i64 K] w fun e w' => e = .returned (.int .i64 K) ∧ w' = w := by
  go_enter Tryz.func45, Tryz.ntmps45
  go_wp2_with fail
  go_loopw [5, 1] (fun iv kv wr => iv = .int .i64 0 ∧ kv = .int .i64 K ∧ w = wr) (fun _ _ _ => 0)
  case atStart => exact ⟨rfl, rfl, rfl⟩
  case round =>
    obtain ⟨rfl, rfl, rfl⟩ := hrel
    go_wp2_with fail
    go_ret
    exact ⟨rfl, rfl⟩
theorem markTexts_R (v : Value) (l : List ByteArray) (F : List Nat) (k0 : Nat) (w : World) (h : textsR.own w [v] l F) (hk1 : 1 ≤ k0) (hk0 : k0 + l.length ≤ 1099511627776) :
    Calls Tryz.prog 45 #[v, .int .i64 (k0 : Nat)] w fun e w' => e = .returned (.int .i64 ((k0 + l.length : Nat) : Int)) ∧ textsR.own w' [v] (helps.markS k0 l.length) F ∧ lay.Frame F w w' := by
  obtain ⟨v', q, e, rfl, hO⟩ := id h
  cases e
  rcases hO.shape with ⟨rfl, rfl, rfl⟩ | ⟨g, cap, rfl, h1, h2⟩
  · refine (nil_markStringS (k0 : Int) w).mono ?_
    rintro e w' ⟨rfl, rfl⟩
    exact ⟨rfl, own_nil _ _ _, lay.Frame.refl _ _⟩
  · obtain ⟨hr, hs, hF⟩ := texts_own.1 h
    rw [hF]
    refine (helps.markStringS g l.length cap k0 0 l w ⟨rfl, hs, hr⟩ hk1 hk0).mono ?_
    rintro e w' ⟨rfl, hO', hg⟩
    refine ⟨rfl, texts_own.2 ⟨?_, hO'.2.1, rfl⟩, lay.Frame.of_grown hg (fun k e => .inl (by cases e; simp [Value.ownBlock]))⟩
    rw [helps.markS_length]
    exact hO'.2.2
set_option maxRecDepth 100000 in
theorem nil_markProofS (K : Int) (w : World) : Calls Tryz.prog 46 #[.slice none 0 0, .int .i64 K] w fun e w' => e = .returned (.int .i64 K) ∧ w' = w := by
  go_enter Tryz.func46, Tryz.ntmps46
  go_wp2_with fail
  go_loopw [5, 1] (fun iv kv wr => iv = .int .i64 0 ∧ kv = .int .i64 K ∧ w = wr) (fun _ _ _ => 0)
  case atStart => exact ⟨rfl, rfl, rfl⟩
  case round =>
    obtain ⟨rfl, rfl, rfl⟩ := hrel
    go_wp2_with fail
    go_ret
    exact ⟨rfl, rfl⟩
theorem markProofs_R (v : Value) (l : List Pf) (F : List Nat) (k0 : Nat) (w : World) (h : proofsR.own w [v] l F) (hk1 : 1 ≤ k0) (hk : k0 + cntAll cntF l ≤ 1099511627776) (hll : ∀ x ∈ l, x.2.2.length ≤ 1099511627776) :
    Calls Tryz.prog 46 #[v, .int .i64 (k0 : Nat)] w fun e w' => e = .returned (.int .i64 ((k0 + cntAll cntF l : Nat) : Int)) ∧ proofsR.own w' [v] (markRow mF cntF k0 l) F ∧ lay.Frame F w w' := by
  obtain ⟨v', q, e, rfl, hO⟩ := id h
  cases e
  rcases hO.shape with ⟨rfl, rfl, rfl⟩ | ⟨g, cap, rfl, h1, h2⟩
  · refine (nil_markProofS (k0 : Int) w).mono ?_
    rintro e w' ⟨rfl, rfl⟩
    exact ⟨rfl, own_nil _ _ _, lay.Frame.refl _ _⟩
  · refine (markProofS g l.length cap l q k0 w hO hk1 hk hll).mono ?_
    rintro e w' ⟨rfl, q', hO', hq, hf⟩
    exact ⟨rfl, ⟨_, q', rfl, by rw [hq], hO'⟩, hf⟩
set_option maxRecDepth 100000 in
set_option maxHeartbeats 1000000 in
theorem markBundle (us : List Value) (x : Bun) (F : List Nat) (k0 : Nat) (w : World) (h : bundleR.own w us x F) (hk1 : 1 ≤ k0) (hk : k0 + cntB x ≤ 1099511627776) (hll : ∀ y ∈ x.2.2.2, y.2.2.length ≤ 1099511627776) :
    Calls Tryz.prog 14 #[.agg us.toArray, .int .i64 (k0 : Nat)] w fun e w' => e = .returned (.int .i64 ((k0 + cntB x : Nat) : Int)) ∧ bundleR.own w' us (mB k0 x) F ∧ lay.Frame F w w' := by
  obtain ⟨v1, v2, F1, F2, rfl, rfl, k1, k2, h1, h2, hn⟩ := bundle_own.1 h
  obtain ⟨n1, n2, n3⟩ := nodup_parts hn
  have hcb : cntB x = x.2.2.1.length + cntAll cntF x.2.2.2 := rfl
  obtain ⟨W, hW⟩ : ∃ W, w.alloc (.cells #[.int .i64 x.1, .string x.2.1, v1, v2] 27) = W := ⟨_, rfl⟩
  have hB : Below w.heap.size w W := by rw [← hW]; exact below_make
  have hbx : BoxIn w.heap.size 27 [] [.int .i64 x.1, .string x.2.1, v1, v2] [] W := by rw [← hW]; exact boxIn_new w _ _
  have hl1 := textsR.ownLt h1
  have hl2 := proofsR.ownLt h2
  have HM := Hid.mk' (markTexts_R v1 x.2.2.1 F1 k0 W (textsR.ownBelow h1 hB) hk1 (by omega))
  obtain ⟨ra, rn, rc, rfl⟩ := slice_shape h1
  obtain ⟨pa, pn, pc, rfl⟩ := slice_shape h2
  have H2 := Hid.mk' (proofsR.ownBelow h2 hB)
  have HW := Hid.mk' hW
  have HFW : Hid (lay.Frame (F1 ++ F2) w W) := lay.Frame.of_below hB
  have HKK : Hid (((k0 + cntB x : Nat) : Int) = ((k0 + x.2.2.1.length + cntAll cntF x.2.2.2 : Nat) : Int)) := by show _ = _; rw [hcb]; omega
  obtain ⟨y0, y1, y2, y3⟩ := box4 hbx
  rw [← hW] at y0 y1 y2 y3
  have hkb : k0 + x.2.2.1.length + cntAll cntF x.2.2.2 ≤ 1099511627776 := by omega
  clear hW h h1 h2 hcb
  go_enter Tryz.func14, Tryz.ntmps14
  go_wp2_with fail
  rw [HW.out]
  refine HM.out.mono ?_
  rintro e w1 ⟨rfl, h1', hf1⟩
  have hbx1 := hbx.frame hf1 (fun hk => by have := hl1 _ hk; omega)
  have h2' := proofsR.ownFrame H2.out hf1 (fun k hk hk2 => n3 k hk2 hk)
  have HP := Hid.mk' (markProofs_R (.slice pa pn pc) x.2.2.2 F2 (k0 + x.2.2.1.length) w1 h2' (by omega) hkb hll)
  have H1 := Hid.mk' h1'
  have hf1' := HFW.out.trans (hf1.mono (fun k hk => List.mem_append.2 (.inl hk))) (fun k hk => .inl hk)
  clear y0 y1 y2 y3 HM HW h1' h2'
  obtain ⟨y0, y1, y2, y3⟩ := box4 hbx1
  generalize ((k0 + x.2.2.1.length : Nat) : Int) = KA at *
  go_wp2_with fail
  refine HP.out.mono ?_
  rintro e w2 ⟨rfl, h2'', hf2⟩
  have HO : Hid (bundleR.own w2 [.int .i64 x.1, .string x.2.1, .slice ra rn rc, .slice pa pn pc] (mB k0 x) (F1 ++ F2)) := bundle_own.2 ⟨_, _, F1, F2, rfl, rfl, k1, k2, textsR.ownFrame H1.out hf2 (fun k hk hk2 => n3 k hk hk2), h2'', hn⟩
  have HF2 : Hid (lay.Frame (F1 ++ F2) w w2) := hf1'.trans (hf2.mono (fun k hk => List.mem_append.2 (.inr hk))) (fun k hk => .inl hk)
  clear h2'' hf2 HP
  go_wp2_with fail
  go_ret
  exact ⟨by rw [HKK.out]; rfl, HO.out, HF2.out⟩
end Go.Proofs.YteammdkipnfmnaaGreatDoor.bun

namespace Go.Proofs.YteammdkipnfmnaaGreatDoor.pairs
open Go Go.RowKit Go.Proofs.YteammdkipnfmnaaGreatDoor.base Go.Proofs.YteammdkipnfmnaaGreatDoor.helps
set_option linter.unusedVariables false
set_option linter.unusedSimpArgs false

theorem eqP (a a2 : Option Addr) (len cap len2 cap2 : Nat) (l l2 : List Pr) (w : World) (h : SlP w a len l) (h2 : SlP w a2 len2 l2) (he : l = l2) :
    Calls Tryz.prog 12 #[.slice a len cap, .slice a2 len2 cap2] w fun e w' => e = .returned (.bool true) ∧ Below w.heap.size w w' := by
  refine (eqPairS a a2 len cap len2 cap2 l l2 w h h2).mono ?_
  rintro e w' ⟨rfl, hb⟩
  exact ⟨ret_bool (decide_eq_true he), hb⟩
theorem markP (g len cap base k0 : Nat) (l : List Pr) (w : World) (h : OwnP w base g len cap l) (hk : len ≤ 274877906944) (hk0 : 1 ≤ k0) (hk2 : k0 ≤ 274877906944) (K : Int) (hK : Hid (K = (k0 : Int))) :
    Calls Tryz.prog 15 #[.slice (some ⟨g, 0, none⟩) len cap, .int .i64 K] w fun e w' => e = .returned (.int .i64 ((k0 : Int) + 2 * (len : Int))) ∧ OwnP w' base g len cap (marksP k0 len) ∧ w.grownBy w' (some g) := by
  have e := hK.out
  subst e
  refine (markPairS g len cap k0 base l w h hk0 (by omega)).mono ?_
  rintro e w' ⟨rfl, h1, h2⟩
  exact ⟨ret_int (by omega), h1, h2⟩
theorem heldP (a : Option Addr) (len cap : Nat) (w : World) (h : SlP w a len (marksP 1 len)) (hk : len ≤ 274877906944) :
    Calls Tryz.prog 16 #[.slice a len cap, .int .i64 1] w fun e w' => e = .returned (.int .i64 (1 + 2 * (len : Int))) ∧ Below w.heap.size w w' := by
  refine (show Calls Tryz.prog 16 #[.slice a len cap, .int .i64 ((1 : Nat) : Int)] w _ from heldPairS a len cap 1 w h (by omega) (by omega)).mono ?_
  rintro e w' ⟨rfl, hb⟩
  exact ⟨ret_int (by omega), hb⟩

section
variable {w0 w w' : World} {gx lx cx gg lg cg gw lw cw : Nat} {X G W : List Pr}
end

/-! ### arguments -/
end Go.Proofs.YteammdkipnfmnaaGreatDoor.pairs

namespace Go.Proofs.YteammdkipnfmnaaGreatDoor.sha
open Go.RowKit Go.Proofs.YteammdkipnfmnaaGreatDoor.base Go.Proofs.YteammdkipnfmnaaGreatDoor.padmath
set_option linter.unusedVariables false
set_option linter.unusedSimpArgs false

theorem wraps_u64 (n : Int) (h₀ : 0 ≤ n) (h₁ : n < 2 ^ 64) : IntKind.u64.wrap n = n := by rw [IntKind.wrap_u64]; omega
theorem wraps_u32 (n : Int) (h₀ : 0 ≤ n) (h₁ : n < 2 ^ 32) : IntKind.u32.wrap n = n := by rw [IntKind.wrap_u32]; omega
theorem u64_mask5 (x : Int) (h₀ : 0 ≤ x) (h₁ : x < 18446744073709551616) : bits .and .u64 x 31 = x % 32 :=
  bits_mask .u64 64 (by decide) wraps_u64 5 (by decide) x h₀ (by omega)
theorem neg31 (n m : Nat) (hn : 1 ≤ n) (hm : m + n = 32) (hm1 : 1 ≤ m) : bits .and .u64 (IntKind.u64.wrap (-(n : Int))) 31 = (m : Int) := by
  have e : IntKind.u64.wrap (-(n : Int)) = 18446744073709551616 - (n : Int) := by rw [IntKind.wrap_u64]; omega
  rw [e, u64_mask5 _ (by omega) (by omega)]
  omega
theorem u32_or_nat (a b : Nat) (ha : a < 4294967296) (hb : b < 4294967296) : bits .or .u32 (a : Int) (b : Int) = ((a ||| b : Nat) : Int) :=
  (bits_nat .u32 32 (by decide) wraps_u32 a b (by omega) (by omega)).2
theorem u32_and_nat (a b : Nat) (ha : a < 4294967296) (hb : b < 4294967296) : bits .and .u32 (a : Int) (b : Int) = ((a &&& b : Nat) : Int) :=
  (bits_nat .u32 32 (by decide) wraps_u32 a b (by omega) (by omega)).1
theorem rot_val (x n m : Nat) (hx : x < 4294967296) (hm : m + n = 32) : bits .or .u32 ((x : Int) * 2 ^ m % 4294967296) ((x : Int) / 2 ^ n) = (rotr n x : Int) := by
  have e1 : (x : Int) / 2 ^ n = ((x / 2 ^ n : Nat) : Int) := by rw [Int.natCast_ediv, Int.natCast_pow]; rfl
  have e2 : (x : Int) * 2 ^ m % 4294967296 = ((x * 2 ^ m % 4294967296 : Nat) : Int) := by rw [Int.natCast_emod, Int.natCast_mul, Int.natCast_pow]; rfl
  rw [e1, e2, u32_or_nat _ _ (Nat.mod_lt _ (by omega)) (div32 _ hx), Nat.or_comm]
  unfold rotr
  rw [show 32 - n = m by omega]
set_option maxHeartbeats 400000 in
theorem impl_rot (x n : Nat) (w : World) (hx : x < 4294967296) (hn : 1 ≤ n) (hn2 : n ≤ 31) :
    Calls Tryz.prog 130 #[.int .u32 (x : Int), .int .i64 (-(n : Int))] w fun e w' => e = .returned (.int .u32 (rotr n x : Int)) ∧ w' = w := by
  obtain ⟨m, hm⟩ : ∃ m, m + n = 32 := ⟨32 - n, by omega⟩
  have hm1 : 1 ≤ m := by omega
  have hm2 : m ≤ 31 := by omega
  have hA := neg31 n m hn hm hm1
  have hS : (32 : Int) - (m : Int) = (n : Int) := by omega
  have HV := Hid.mk' (rot_val x n m hx hm)
  clear hm
  go_enter Tryz.func130, Tryz.ntmps130
  go_wp2
  go_ret
  exact ⟨ret_int HV.out, rfl⟩
theorem impl_rotI (x n : Nat) (N : Int) (w : World) (hN : Hid (N = -(n : Int))) (hx : x < 4294967296) (hn : 1 ≤ n) (hn2 : n ≤ 31) :
    Calls Tryz.prog 130 #[.int .u32 (x : Int), .int .i64 N] w fun e w' => e = .returned (.int .u32 (rotr n x : Int)) ∧ w' = w := by
  have e := hN.out
  subst e
  exact impl_rot x n w hx hn hn2
theorem u32_xor3 (a b c : Nat) (ha : a < 4294967296) (hb : b < 4294967296) (hc : c < 4294967296) : bits .xor .u32 (bits .xor .u32 (a : Int) (b : Int)) (c : Int) = ((a ^^^ b ^^^ c : Nat) : Int) := by
  rw [u32_xor_nat a b ha hb, u32_xor_nat _ _ (xor32 ha hb) hc]
theorem sz_val (x : Nat) (h : x < 4294967296) : bits .xor .u32 (bits .xor .u32 (rotr 7 x : Int) (rotr 18 x : Int)) ((x : Int) / 8) = (ssig0 x : Int) := by
  rw [show (x : Int) / 8 = ((x / 8 : Nat) : Int) by omega, u32_xor3 _ _ _ (rotr_lt _ _ h) (rotr_lt _ _ h) (div32 _ h)]; rfl
theorem so_val (x : Nat) (h : x < 4294967296) : bits .xor .u32 (bits .xor .u32 (rotr 17 x : Int) (rotr 19 x : Int)) ((x : Int) / 1024) = (ssig1 x : Int) := by
  rw [show (x : Int) / 1024 = ((x / 1024 : Nat) : Int) by omega, u32_xor3 _ _ _ (rotr_lt _ _ h) (rotr_lt _ _ h) (div32 _ h)]; rfl
set_option maxHeartbeats 400000 in
theorem impl_sig0 (x : Nat) (w : World) (hx : x < 4294967296) :
    Calls Tryz.prog 109 #[.int .u32 (x : Int)] w fun e w' => e = .returned (.int .u32 (ssig0 x : Int)) ∧ w' = w := by
  have HV := Hid.mk' (sz_val x hx)
  go_enter Tryz.func109, Tryz.ntmps109
  go_wp2_with fail
  refine (impl_rotI x 7 _ _ (by show _ = _; rfl) hx (by omega) (by omega)).mono ?_
  rintro e w1 ⟨rfl, hw1⟩
  subst hw1
  go_wp2_with fail
  refine (impl_rotI x 18 _ _ (by show _ = _; rfl) hx (by omega) (by omega)).mono ?_
  rintro e w1 ⟨rfl, hw1⟩
  subst hw1
  go_wp2_with fail
  go_ret
  exact ⟨ret_int HV.out, rfl⟩
set_option maxHeartbeats 400000 in
theorem impl_sig1 (x : Nat) (w : World) (hx : x < 4294967296) :
    Calls Tryz.prog 110 #[.int .u32 (x : Int)] w fun e w' => e = .returned (.int .u32 (ssig1 x : Int)) ∧ w' = w := by
  have HV := Hid.mk' (so_val x hx)
  go_enter Tryz.func110, Tryz.ntmps110
  go_wp2_with fail
  refine (impl_rotI x 17 _ _ (by show _ = _; rfl) hx (by omega) (by omega)).mono ?_
  rintro e w1 ⟨rfl, hw1⟩
  subst hw1
  go_wp2_with fail
  refine (impl_rotI x 19 _ _ (by show _ = _; rfl) hx (by omega) (by omega)).mono ?_
  rintro e w1 ⟨rfl, hw1⟩
  subst hw1
  go_wp2_with fail
  go_ret
  exact ⟨ret_int HV.out, rfl⟩
set_option maxHeartbeats 400000 in
theorem impl_turned (x i j k : Nat) (w : World) (hx : x < 4294967296) (hi : 1 ≤ i) (hi2 : i ≤ 31) (hj : 1 ≤ j) (hj2 : j ≤ 31) (hk : 1 ≤ k) (hk2 : k ≤ 31) :
    Calls Tryz.prog 111 #[.int .u32 (x : Int), .int .i64 (i : Int), .int .i64 (j : Int), .int .i64 (k : Int)] w fun e w' => e = .returned (.int .u32 ((rotr i x ^^^ rotr j x ^^^ rotr k x : Nat) : Int)) ∧ w' = w := by
  have HV := Hid.mk' (u32_xor3 _ _ _ (rotr_lt i x hx) (rotr_lt j x hx) (rotr_lt k x hx))
  go_enter Tryz.func111, Tryz.ntmps111
  go_wp2_with fail
  refine (impl_rotI x i _ _ (by show _ = _; rfl) hx (by omega) (by omega)).mono ?_
  rintro e w1 ⟨rfl, hw1⟩
  subst hw1
  go_wp2_with fail
  refine (impl_rotI x j _ _ (by show _ = _; rfl) hx (by omega) (by omega)).mono ?_
  rintro e w1 ⟨rfl, hw1⟩
  subst hw1
  go_wp2_with fail
  refine (impl_rotI x k _ _ (by show _ = _; rfl) hx (by omega) (by omega)).mono ?_
  rintro e w1 ⟨rfl, hw1⟩
  subst hw1
  go_wp2_with fail
  go_ret
  exact ⟨ret_int HV.out, rfl⟩
theorem impl_bsig1 (x : Nat) (w : World) (hx : x < 4294967296) :
    Calls Tryz.prog 111 #[.int .u32 (x : Int), .int .i64 6, .int .i64 11, .int .i64 25] w fun e w' => e = .returned (.int .u32 (bsig1 x : Int)) ∧ w' = w :=
  impl_turned x 6 11 25 w hx (by omega) (by omega) (by omega) (by omega) (by omega) (by omega)
theorem impl_bsig0 (x : Nat) (w : World) (hx : x < 4294967296) :
    Calls Tryz.prog 111 #[.int .u32 (x : Int), .int .i64 2, .int .i64 13, .int .i64 22] w fun e w' => e = .returned (.int .u32 (bsig0 x : Int)) ∧ w' = w :=
  impl_turned x 2 13 22 w hx (by omega) (by omega) (by omega) (by omega) (by omega) (by omega)

end Go.Proofs.YteammdkipnfmnaaGreatDoor.sha

namespace Go.Proofs.YteammdkipnfmnaaGreatDoor.sha
open Go.RowKit Go.Proofs.YteammdkipnfmnaaGreatDoor.base Go.Proofs.YteammdkipnfmnaaGreatDoor.padmath
set_option linter.unusedVariables false
set_option linter.unusedSimpArgs false

/-! ### arrays of words -/
def uVals (l : List Nat) : List Value := l.map fun (z : Nat) => .int .u32 (z : Int)
theorem uVals_set (l : List Nat) (k z : Nat) : (uVals l).set k (.int .u32 (z : Int)) = uVals (l.set k z) := by simp [uVals]
def Arr (w : World) (g : Nat) (t : TypeId) (l : List Nat) : Prop := w.heap[g]? = some (.cells (uVals l).toArray t (0, 0))
section
variable {w w' : World} {g : Nat} {t : TypeId} {l : List Nat} {row : Option Nat}
theorem Arr.at (h : Arr w g t l) (i : Nat) (hi : i < l.length) : w.cell? ⟨g, i, none⟩ = some (.int .u32 ((l.getD i 0 : Nat) : Int)) := by
  rw [cell_of_row w g i _ t _ h]
  simp [uVals, List.getD, hi]
theorem Arr.lt (h : Arr w g t l) : g < w.heap.size := (Array.getElem?_eq_some_iff.1 h).1
theorem Arr.frozen (h : Arr w g t l) (i : Nat) : w.frozen? ⟨g, i, none⟩ = false := by
  unfold Arr at h
  simp only [World.frozen?, h]
  simp
theorem Arr.set (h : Arr w g t l) (k z : Nat) : Arr (w.setCell ⟨g, k, none⟩ (.int .u32 (z : Int))) g t (l.set k z) ∧ w.grownBy (w.setCell ⟨g, k, none⟩ (.int .u32 (z : Int))) (some g) := by
  have := set_cur h k (.int .u32 (z : Int))
  refine ⟨?_, this.2⟩
  unfold Arr
  rw [this.1, ← uVals_set]
  simp
theorem Arr.grown (h : Arr w g t l) (hg : w.grownBy w' row) (hne : some g ≠ row) : Arr w' g t l := (hg.block g h.lt hne).trans h
theorem Arr.below (h : Arr w g t l) (hb : Below w.heap.size w w') : Arr w' g t l := (hb.block g h.lt).trans h
end

theorem arr_new {w : World} {t : TypeId} (cs : Array Value) (l : List Nat) (g : Nat) (hg : g = w.heap.size) (hc : cs = (uVals l).toArray) : Arr (w.alloc (.cells cs t)) g t l := by
  subst hg; subst hc; exact heap_alloc_new w _
theorem Arr.sixteen {w : World} {g : Nat} {t : TypeId} {x0 x1 x2 x3 x4 x5 x6 x7 x8 x9 x10 x11 x12 x13 x14 x15 : Nat} (h : Arr w g t [x0, x1, x2, x3, x4, x5, x6, x7, x8, x9, x10, x11, x12, x13, x14, x15]) :
    w.cell? ⟨g, 0, none⟩ = some (.int .u32 (x0 : Int)) ∧ w.cell? ⟨g, 1, none⟩ = some (.int .u32 (x1 : Int)) ∧ w.cell? ⟨g, 2, none⟩ = some (.int .u32 (x2 : Int)) ∧ w.cell? ⟨g, 3, none⟩ = some (.int .u32 (x3 : Int)) ∧ w.cell? ⟨g, 4, none⟩ = some (.int .u32 (x4 : Int)) ∧ w.cell? ⟨g, 5, none⟩ = some (.int .u32 (x5 : Int)) ∧ w.cell? ⟨g, 6, none⟩ = some (.int .u32 (x6 : Int)) ∧ w.cell? ⟨g, 7, none⟩ = some (.int .u32 (x7 : Int)) ∧ w.cell? ⟨g, 8, none⟩ = some (.int .u32 (x8 : Int)) ∧ w.cell? ⟨g, 9, none⟩ = some (.int .u32 (x9 : Int)) ∧ w.cell? ⟨g, 10, none⟩ = some (.int .u32 (x10 : Int)) ∧ w.cell? ⟨g, 11, none⟩ = some (.int .u32 (x11 : Int)) ∧ w.cell? ⟨g, 12, none⟩ = some (.int .u32 (x12 : Int)) ∧ w.cell? ⟨g, 13, none⟩ = some (.int .u32 (x13 : Int)) ∧ w.cell? ⟨g, 14, none⟩ = some (.int .u32 (x14 : Int)) ∧ w.cell? ⟨g, 15, none⟩ = some (.int .u32 (x15 : Int)) :=
  ⟨h.at 0 (by simp), h.at 1 (by simp), h.at 2 (by simp), h.at 3 (by simp), h.at 4 (by simp), h.at 5 (by simp), h.at 6 (by simp), h.at 7 (by simp), h.at 8 (by simp), h.at 9 (by simp), h.at 10 (by simp), h.at 11 (by simp), h.at 12 (by simp), h.at 13 (by simp), h.at 14 (by simp), h.at 15 (by simp)⟩
theorem Arr.eight {w : World} {g : Nat} {t : TypeId} {x0 x1 x2 x3 x4 x5 x6 x7 : Nat} (h : Arr w g t [x0, x1, x2, x3, x4, x5, x6, x7]) :
    w.cell? ⟨g, 0, none⟩ = some (.int .u32 (x0 : Int)) ∧ w.cell? ⟨g, 1, none⟩ = some (.int .u32 (x1 : Int)) ∧ w.cell? ⟨g, 2, none⟩ = some (.int .u32 (x2 : Int)) ∧ w.cell? ⟨g, 3, none⟩ = some (.int .u32 (x3 : Int)) ∧ w.cell? ⟨g, 4, none⟩ = some (.int .u32 (x4 : Int)) ∧ w.cell? ⟨g, 5, none⟩ = some (.int .u32 (x5 : Int)) ∧ w.cell? ⟨g, 6, none⟩ = some (.int .u32 (x6 : Int)) ∧ w.cell? ⟨g, 7, none⟩ = some (.int .u32 (x7 : Int)) :=
  ⟨h.at 0 (by simp), h.at 1 (by simp), h.at 2 (by simp), h.at 3 (by simp), h.at 4 (by simp), h.at 5 (by simp), h.at 6 (by simp), h.at 7 (by simp)⟩

/-! ### the words of a block's bytes -/
def part (bs : List UInt8) (j : Nat) : Nat → Nat
  | 0 => 0
  | r + 1 => part bs j r * 256 + (bs.getD (4 * j + r) 0).toNat
theorem part_lt (bs : List UInt8) (j r : Nat) : part bs j r < 256 ^ r := by
  induction r with
  | zero => simp [part]
  | succ r ih =>
    have := (bs.getD (4 * j + r) 0).toNat_lt
    rw [part, Nat.pow_succ]; omega
theorem part_four (bs : List UInt8) (j : Nat) : part bs j 4 = be32 bs j := by
  simp only [part, be32, Nat.add_zero]; omega
def wordsAt (bs : List UInt8) (i : Nat) : List Nat := (List.range 16).map fun j => part bs j (min 4 (i - 4 * j))
theorem wordsAt_length (bs : List UInt8) (i : Nat) : (wordsAt bs i).length = 16 := by simp [wordsAt]
theorem wordsAt_get (bs : List UInt8) (i j : Nat) (h : j < 16) : (wordsAt bs i).getD j 0 = part bs j (min 4 (i - 4 * j)) := by
  simp [wordsAt, List.getD, h]
theorem wordsAt_zero (bs : List UInt8) : wordsAt bs 0 = [0, 0, 0, 0, 0, 0, 0, 0, 0, 0, 0, 0, 0, 0, 0, 0] := by
  have e : wordsAt bs 0 = (List.range 16).map fun _ => 0 := by
    unfold wordsAt; apply List.map_congr_left; intro j _; simp [part]
  rw [e]; rfl
theorem wordsAt_all (bs : List UInt8) : wordsAt bs 64 = (List.range 16).map (be32 bs) := by
  unfold wordsAt
  apply List.map_congr_left
  intro j hj
  have := List.mem_range.1 hj
  rw [show min 4 (64 - 4 * j) = 4 by omega, part_four]
theorem wordsAt_set (bs : List UInt8) (i : Nat) (h : i < 64) :
    (wordsAt bs i).set (i / 4) ((wordsAt bs i).getD (i / 4) 0 * 256 + (bs.getD i 0).toNat) = wordsAt bs (i + 1) := by
  apply List.ext_getElem
  · simp [wordsAt]
  · intro j h1 h2
    have hj : j < 16 := by simpa [wordsAt] using h2
    rw [List.getElem_set]
    by_cases e : i / 4 = j
    · rw [if_pos e, e, wordsAt_get bs i j hj]
      simp only [wordsAt, List.getElem_map, List.getElem_range]
      rw [show min 4 (i - 4 * j) = i % 4 by omega, show min 4 (i + 1 - 4 * j) = i % 4 + 1 by omega, part, show 4 * j + i % 4 = i by omega]
    · rw [if_neg e]
      simp only [wordsAt, List.getElem_map, List.getElem_range]
      have : min 4 (i - 4 * j) = min 4 (i + 1 - 4 * j) := by omega
      rw [this]
theorem wordsAt_lt (bs : List UInt8) (i : Nat) (h : i < 64) : (wordsAt bs i).getD (i / 4) 0 < 16777216 := by
  rw [wordsAt_get bs i _ (by omega), show min 4 (i - 4 * (i / 4)) = i % 4 by omega]
  have h1 := part_lt bs (i / 4) (i % 4)
  have h2 : 256 ^ (i % 4) ≤ 256 ^ 3 := Nat.pow_le_pow_right (by omega) (by omega)
  omega
theorem shl_val (x c : Nat) (hx : x < 16777216) (hc : c < 256) : bits .or .u32 ((x : Int) * 256) (c : Int) = ((x * 256 + c : Nat) : Int) := by
  rw [show (x : Int) * 256 = ((x * 256 : Nat) : Int) by omega, u32_or_nat _ _ (by omega) (by omega), nat_join 8 _ _ (by omega) (by omega)]

set_option maxRecDepth 100000 in
set_option maxHeartbeats 2000000 in
theorem impl_words (b off cap : Nat) (bs : List UInt8) (w : World) (h : Sl w (some ⟨b, off, none⟩) 64 bs) :
    Calls Tryz.prog 75 #[.slice (some ⟨b, off, none⟩) 64 cap] w fun e w' => e = .returned (.agg #[.int .u32 (be32 bs 0 : Int), .int .u32 (be32 bs 1 : Int), .int .u32 (be32 bs 2 : Int), .int .u32 (be32 bs 3 : Int), .int .u32 (be32 bs 4 : Int), .int .u32 (be32 bs 5 : Int), .int .u32 (be32 bs 6 : Int), .int .u32 (be32 bs 7 : Int), .int .u32 (be32 bs 8 : Int), .int .u32 (be32 bs 9 : Int), .int .u32 (be32 bs 10 : Int), .int .u32 (be32 bs 11 : Int), .int .u32 (be32 bs 12 : Int), .int .u32 (be32 bs 13 : Int), .int .u32 (be32 bs 14 : Int), .int .u32 (be32 bs 15 : Int)]) ∧ Below w.heap.size w w' := by
  have hbl := h.lt (by omega)
  go_enter Tryz.func75, Tryz.ntmps75
  go_wp2_with fail
  go_loopw [9] (fun iv wr => ∃ i : Nat, i ≤ 64 ∧ iv = .int .i64 (i : Int) ∧ Arr wr (w.heap.size + 1) 113 (wordsAt bs i) ∧ Arr wr w.heap.size 113 (wordsAt bs 0) ∧ Below w.heap.size w wr) (fun iv _ => 64 - (intOf iv).toNat)
  case atStart =>
    refine ⟨0, Nat.zero_le _, rfl, ?_, ?_, ((Below.refl _ _).alloc (Nat.le_refl _) _).alloc (by simp) _⟩
    · rw [wordsAt_zero]; exact arr_new _ _ _ (by simp) rfl
    · rw [wordsAt_zero]; exact (arr_new _ _ _ rfl rfl).below ((Below.refl _ _).alloc (Nat.le_refl _) _)
  case round =>
    obtain ⟨i, hi, rfl, hA, hR, hB⟩ := hrel
    by_cases hlt : i < 64
    · have hS := h.below hB
      have c0 := hS.at i (by have := hS.1; omega)
      have hg0 : bs[i]'(by have := hS.1; omega) = bs.getD i 0 := by rw [List.getD_eq_getElem?_getD, List.getElem?_eq_getElem (by have := hS.1; omega)]; rfl
      rw [hg0] at c0
      obtain ⟨q, hq, hqi⟩ : ∃ q : Nat, i / 4 = q ∧ (i : Int) / 4 = (q : Int) := ⟨_, rfl, by omega⟩
      have hq16 : (q : Int) < 16 := by omega
      have c1 := hA.at q (by rw [wordsAt_length]; omega)
      have c2 := hA.frozen q
      have hx := wordsAt_lt bs i hlt
      have hst := wordsAt_set bs i hlt
      have hc := (bs.getD i 0).toNat_lt
      have hsh := shl_val ((wordsAt bs i).getD (i / 4) 0) (bs.getD i 0).toNat hx hc
      have hA2 := hA.set q ((wordsAt bs i).getD (i / 4) 0 * 256 + (bs.getD i 0).toNat)
      rw [← hq, hst, hq] at hA2
      rw [hq] at hx hsh
      generalize (wordsAt bs i).getD q 0 = x at *
      generalize (bs.getD i 0).toNat = c at *
      have HA2 := Hid.mk' hA2
      have HSH := Hid.mk' hsh
      clear hS hst hA2 hsh hg0 hq
      go_wp2_with fail
      go_roundw
      case rel =>
        refine ⟨i + 1, by omega, by go_num, ?_, ?_, ?_⟩
        · rw [HSH.out]; exact HA2.out.1
        · rw [HSH.out]; exact hR.grown HA2.out.2 (by simp)
        · rw [HSH.out]; exact hB.trans (below_grown HA2.out.2 (by omega) hB.size)
      case measure => simp [intOf]; omega
    · have HE : Hid (i = 64) := by show _ = _; omega
      have hA' : Arr wr (w.heap.size + 1) 113 [be32 bs 0, be32 bs 1, be32 bs 2, be32 bs 3, be32 bs 4, be32 bs 5, be32 bs 6, be32 bs 7, be32 bs 8, be32 bs 9, be32 bs 10, be32 bs 11, be32 bs 12, be32 bs 13, be32 bs 14, be32 bs 15] := by
        have := hA
        rw [HE.out, wordsAt_all] at this
        exact this
      rw [wordsAt_zero] at hR
      obtain ⟨a0, a1, a2, a3, a4, a5, a6, a7, a8, a9, a10, a11, a12, a13, a14, a15⟩ := hA'.sixteen
      obtain ⟨r0, r1, r2, r3, r4, r5, r6, r7, r8, r9, r10, r11, r12, r13, r14, r15⟩ := hR.sixteen
      have hfz := hR.frozen
      clear hA hA' hR
      go_wp2_with fail
      have hBz := ((((((((((((((((hB.setCell (p := ⟨w.heap.size, 0, none⟩) (Nat.le_refl _) (.int .u32 (be32 bs 0 : Int))).setCell (p := ⟨w.heap.size, 1, none⟩) (Nat.le_refl _) (.int .u32 (be32 bs 1 : Int))).setCell (p := ⟨w.heap.size, 2, none⟩) (Nat.le_refl _) (.int .u32 (be32 bs 2 : Int))).setCell (p := ⟨w.heap.size, 3, none⟩) (Nat.le_refl _) (.int .u32 (be32 bs 3 : Int))).setCell (p := ⟨w.heap.size, 4, none⟩) (Nat.le_refl _) (.int .u32 (be32 bs 4 : Int))).setCell (p := ⟨w.heap.size, 5, none⟩) (Nat.le_refl _) (.int .u32 (be32 bs 5 : Int))).setCell (p := ⟨w.heap.size, 6, none⟩) (Nat.le_refl _) (.int .u32 (be32 bs 6 : Int))).setCell (p := ⟨w.heap.size, 7, none⟩) (Nat.le_refl _) (.int .u32 (be32 bs 7 : Int))).setCell (p := ⟨w.heap.size, 8, none⟩) (Nat.le_refl _) (.int .u32 (be32 bs 8 : Int))).setCell (p := ⟨w.heap.size, 9, none⟩) (Nat.le_refl _) (.int .u32 (be32 bs 9 : Int))).setCell (p := ⟨w.heap.size, 10, none⟩) (Nat.le_refl _) (.int .u32 (be32 bs 10 : Int))).setCell (p := ⟨w.heap.size, 11, none⟩) (Nat.le_refl _) (.int .u32 (be32 bs 11 : Int))).setCell (p := ⟨w.heap.size, 12, none⟩) (Nat.le_refl _) (.int .u32 (be32 bs 12 : Int))).setCell (p := ⟨w.heap.size, 13, none⟩) (Nat.le_refl _) (.int .u32 (be32 bs 13 : Int))).setCell (p := ⟨w.heap.size, 14, none⟩) (Nat.le_refl _) (.int .u32 (be32 bs 14 : Int))).setCell (p := ⟨w.heap.size, 15, none⟩) (Nat.le_refl _) (.int .u32 (be32 bs 15 : Int)))
      refine bodyPost_ret (v := .agg #[.int .u32 (be32 bs 0 : Int), .int .u32 (be32 bs 1 : Int), .int .u32 (be32 bs 2 : Int), .int .u32 (be32 bs 3 : Int), .int .u32 (be32 bs 4 : Int), .int .u32 (be32 bs 5 : Int), .int .u32 (be32 bs 6 : Int), .int .u32 (be32 bs 7 : Int), .int .u32 (be32 bs 8 : Int), .int .u32 (be32 bs 9 : Int), .int .u32 (be32 bs 10 : Int), .int .u32 (be32 bs 11 : Int), .int .u32 (be32 bs 12 : Int), .int .u32 (be32 bs 13 : Int), .int .u32 (be32 bs 14 : Int), .int .u32 (be32 bs 15 : Int)]) ?h1 rfl ⟨rfl, hBz⟩
      simp [results, Tryz.results75, go_sem, r0, r1, r2, r3, r4, r5, r6, r7, r8, r9, r10, r11, r12, r13, r14, r15]

end Go.Proofs.YteammdkipnfmnaaGreatDoor.sha

namespace Go.Proofs.YteammdkipnfmnaaGreatDoor.sha
open Go.RowKit Go.Proofs.YteammdkipnfmnaaGreatDoor.base Go.Proofs.YteammdkipnfmnaaGreatDoor.padmath
set_option linter.unusedVariables false
set_option linter.unusedSimpArgs false

def cycI (r j : Nat) : Nat := max r 16 - 1 - (max r 16 - 1 - j) % 16
def cyc (bs : List UInt8) (r : Nat) : List Nat := (List.range 16).map fun j => (ws bs 64).getD (cycI r j) 0
theorem cyc_length (bs : List UInt8) (r : Nat) : (cyc bs r).length = 16 := by simp [cyc]
theorem cyc_get (bs : List UInt8) (r j : Nat) (h : j < 16) : (cyc bs r).getD j 0 = (ws bs 64).getD (cycI r j) 0 := by simp [cyc, List.getD, h]
theorem cycI_low (r j : Nat) (h : r ≤ 16) (hj : j < 16) : cycI r j = j := by
  unfold cycI; rw [show max r 16 = 16 by omega]; omega
theorem cycI_high (r j : Nat) (h : 16 ≤ r) : cycI r j = r - 1 - (r - 1 - j) % 16 := by
  unfold cycI; rw [show max r 16 = r by omega]
theorem cyc_low (bs : List UInt8) (r : Nat) (h : r < 16) : cyc bs (r + 1) = cyc bs r := by
  unfold cyc
  apply List.map_congr_left
  intro j hj
  have := List.mem_range.1 hj
  rw [cycI_low _ _ (by omega) this, cycI_low _ _ (by omega) this]
theorem ws_pre (bs : List UInt8) (j k n : Nat) (hj : j < k) (hk : k ≤ n) : (ws bs n).getD j 0 = (ws bs k).getD j 0 := by
  induction n with
  | zero => omega
  | succ n ih =>
    by_cases e : k = n + 1
    · rw [e]
    · rw [← ih (by omega), ws, List.getD_eq_getElem?_getD, List.getElem?_append_left (by rw [ws_length]; omega), ← List.getD_eq_getElem?_getD]
theorem ws_at (bs : List UInt8) (k : Nat) (h : k < 64) : (ws bs 64).getD k 0 = nextWord bs (ws bs k) k := by
  rw [ws_pre bs k (k + 1) 64 (by omega) (by omega), ws, List.getD_eq_getElem?_getD, List.getElem?_append_right (by rw [ws_length]; omega), ws_length, Nat.sub_self]
  rfl
theorem ws_low (bs : List UInt8) (k : Nat) (h : k < 16) : (ws bs 64).getD k 0 = be32 bs k := by
  rw [ws_at bs k (by omega), nextWord, if_pos h]
theorem ws_high (bs : List UInt8) (k : Nat) (h : 16 ≤ k) (h2 : k < 64) : (ws bs 64).getD k 0 =
    ((ws bs 64).getD (k - 16) 0 + ssig0 ((ws bs 64).getD (k - 15) 0) + (ws bs 64).getD (k - 7) 0 + ssig1 ((ws bs 64).getD (k - 2) 0)) % 4294967296 := by
  rw [ws_at bs k h2, nextWord, if_neg (by omega), ws_pre bs (k - 16) k 64 (by omega) (by omega), ws_pre bs (k - 15) k 64 (by omega) (by omega), ws_pre bs (k - 7) k 64 (by omega) (by omega), ws_pre bs (k - 2) k 64 (by omega) (by omega)]
theorem cyc_zero (bs : List UInt8) : cyc bs 0 = (List.range 16).map (be32 bs) := by
  unfold cyc
  apply List.map_congr_left
  intro j hj
  have := List.mem_range.1 hj
  rw [cycI_low _ _ (by omega) this, ws_low _ _ this]
theorem cyc_at (bs : List UInt8) (r : Nat) (h : r < 16) : (cyc bs r).getD (r % 16) 0 = (ws bs 64).getD r 0 := by
  rw [cyc_get _ _ _ (by omega), cycI_low _ _ (by omega) (by omega), Nat.mod_eq_of_lt h]
theorem cyc_set (bs : List UInt8) (r : Nat) (h : 16 ≤ r) : (cyc bs r).set (r % 16) ((ws bs 64).getD r 0) = cyc bs (r + 1) := by
  apply List.ext_getElem
  · simp [cyc]
  · intro j h1 h2
    have hj : j < 16 := by simpa [cyc] using h2
    rw [List.getElem_set]
    simp only [cyc, List.getElem_map, List.getElem_range]
    by_cases e : r % 16 = j
    · rw [if_pos e, cycI_high _ _ (by omega), show r + 1 - 1 - (r + 1 - 1 - j) % 16 = r by omega]
    · rw [if_neg e, cycI_high _ _ h, cycI_high _ _ (by omega), show r - 1 - (r - 1 - j) % 16 = r + 1 - 1 - (r + 1 - 1 - j) % 16 by omega]
theorem cyc_16 (bs : List UInt8) (r : Nat) (h : 16 ≤ r) : (cyc bs r).getD (r % 16) 0 = (ws bs 64).getD (r - 16) 0 := by
  rw [cyc_get _ _ _ (by omega), cycI_high _ _ h, show r - 1 - (r - 1 - r % 16) % 16 = r - 16 by omega]
theorem cyc_7 (bs : List UInt8) (r : Nat) (h : 16 ≤ r) : (cyc bs r).getD ((r + 9) % 16) 0 = (ws bs 64).getD (r - 7) 0 := by
  rw [cyc_get _ _ _ (by omega), cycI_high _ _ h, show r - 1 - (r - 1 - (r + 9) % 16) % 16 = r - 7 by omega]
theorem cyc_15 (bs : List UInt8) (r : Nat) (h : 16 ≤ r) : (cyc bs r).getD ((r + 1) % 16) 0 = (ws bs 64).getD (r - 15) 0 := by
  rw [cyc_get _ _ _ (by omega), cycI_high _ _ h, show r - 1 - (r - 1 - (r + 1) % 16) % 16 = r - 15 by omega]
theorem cyc_2 (bs : List UInt8) (r : Nat) (h : 16 ≤ r) : (cyc bs r).getD ((r + 14) % 16) 0 = (ws bs 64).getD (r - 2) 0 := by
  rw [cyc_get _ _ _ (by omega), cycI_high _ _ h, show r - 1 - (r - 1 - (r + 14) % 16) % 16 = r - 2 by omega]

def KW (w : World) : Prop := ∀ i, i < 64 → w.cell? ⟨0, i, none⟩ = some (.int .u32 ((K64.getD i 0 : Nat) : Int))
theorem KW.below {w w' : World} (h : KW w) (hb : Below w.heap.size w w') : KW w' := fun i hi =>
  (hb.cell (p := ⟨0, i, none⟩) (World.block_lt_of_cell? w _ (h i hi))).trans (h i hi)
end Go.Proofs.YteammdkipnfmnaaGreatDoor.sha
