/- The laws' marks on proofs and bundles. The laws' marks on bundles. The laws' helpers for seals: their sizes. The laws' own copies of seals. Seals that came in. What all laws share whose road reads the table of the rounds' words: the table reads as its datum, so its cells are the words. -/
import Derived.Test.YteammdkipnfmnaaDoorShaq
import Derived.Test.YteammdkipnfmnaaDoorShao
import Derived.Test.YteammdkipnfmnaaDoorShag
import Derived.Test.YteammdkipnfmnaaDoorShae
import Derived.Test.YteammdkipnfmnaaDoorShaf
import Derived.Test.YteammdkipnfmnaaDoorRows
import Derived.Test.YteammdkipnfmnaaDoorShan
import Derived.ProofKit
import Derived.OpenShut
import Derived.ShutString
import Derived.ChangeOld
import Derived.Below
import Derived.ChangeVars
import Derived.OpenVars
import Derived.LaidMore
import Derived.Lay
import Derived.LaidOnce
import Derived.SevenTiedAt
namespace Go.Proofs.YteammdkipnfmnaaDoor.bun
open Go Go.RowKit Go.Proofs.YteammdkipnfmnaaDoor.base Go.Proofs.YteammdkipnfmnaaDoor.pairs Go.Proofs.YteammdkipnfmnaaDoor.lay Go.Proofs.YteammdkipnfmnaaDoor.range Go.Proofs.YteammdkipnfmnaaDoor.seals
set_option linter.unusedVariables false
set_option linter.unusedSimpArgs false

def cntF (x : Pf) : Nat := 2 + cnt x.2.2
def mF (k : Nat) (x : Pf) : Pf := ((k : Int), ((k + 1 : Nat) : Int), markI (k + 2) x.2.2)
section
variable {w w' : World} {us : List Value} {x : Pf} {F : List Nat}
theorem proof_parts (h : proofR.own w us x F) : ∃ ra rn rc, us = [.int .i64 x.1, .int .i64 x.2.1, .slice ra rn rc] ∧ (Lit.int .i64 x.1).wf = true ∧ (Lit.int .i64 x.2.1).wf = true ∧ itemsR.own w [.slice ra rn rc] x.2.2 F := by
  obtain ⟨v, rfl, k1, k2, h4⟩ := proof_own.1 h
  obtain ⟨v', hs, e, rfl, hI⟩ := id h4
  cases e
  rcases hI.shape with ⟨rfl, _, _⟩ | ⟨g, cap, rfl, _, _⟩
  · exact ⟨_, _, _, rfl, k1, k2, h4⟩
  · exact ⟨_, _, _, rfl, k1, k2, h4⟩
theorem proof_set0 {k : Int} (hk : (Lit.int .i64 k).wf = true) (h : proofR.own w us x F) : proofR.own w (us.set 0 (.int .i64 k)) (k, x.2.1, x.2.2) F := by
  obtain ⟨v, rfl, k1, k2, h4⟩ := proof_own.1 h
  exact proof_own.2 ⟨v, rfl, hk, k2, h4⟩
theorem proof_set1 {k : Int} (hk : (Lit.int .i64 k).wf = true) (h : proofR.own w us x F) : proofR.own w (us.set 1 (.int .i64 k)) (x.1, k, x.2.2) F := by
  obtain ⟨v, rfl, k1, k2, h4⟩ := proof_own.1 h
  exact proof_own.2 ⟨v, rfl, k1, hk, h4⟩
end
theorem markItems_R (v : Value) (l : List It) (F : List Nat) (k0 : Nat) (w : World) (h : itemsR.own w [v] l F) (hk1 : 1 ≤ k0) (hk0 : k0 + cnt l ≤ 1099511627776) (hll : l.length ≤ 1099511627776) :
    Calls Tryd.prog 42 #[v, .int .i64 (k0 : Nat)] w fun e w' => e = .returned (.int .i64 ((k0 + cnt l : Nat) : Int)) ∧ itemsR.own w' [v] (markI k0 l) F ∧ lay.Frame F w w' := by
  obtain ⟨v', hs, e, rfl, hI⟩ := h
  cases e
  refine (markItemS v 0 k0 l hs w hI (Nat.zero_le _) hk1 hk0 hll).mono ?_
  rintro e w' ⟨rfl, hO, hK⟩
  exact ⟨rfl, ⟨v, hs, rfl, rfl, hO⟩, hK.os, hK.tape, hK.output, hK.size, fun j hj hn => hK.block j hj (fun e => hn (mem_blkI.2 e))⟩
set_option maxRecDepth 100000 in
set_option maxHeartbeats 4000000 in
theorem markProofS (g n cap : Nat) (l : List Pf) (q : Parts) (k0 : Nat) (w : World) (h : OwnG 50 proofR w (.slice (some ⟨g, 0, none⟩) n cap) l q) (hk1 : 1 ≤ k0) (hk : k0 + cntAll cntF l ≤ 1099511627776) (hll : ∀ x ∈ l, x.2.2.length ≤ 1099511627776) :
    Calls Tryd.prog 28 #[.slice (some ⟨g, 0, none⟩) n cap, .int .i64 (k0 : Int)] w fun e w' => e = .returned (.int .i64 ((k0 + cntAll cntF l : Nat) : Int)) ∧ ∃ q', OwnG 50 proofR w' (.slice (some ⟨g, 0, none⟩) n cap) (markRow mF cntF k0 l) q' ∧ blocksOf q' = blocksOf q ∧ lay.Frame (g :: blocksOf q) w w' := by
  have hnl := h.nlen
  subst hnl
  have hlm : l.length ≤ maxLen := by rcases h.shape with ⟨e, _⟩ | ⟨_, _, _, h1, h2⟩; cases e; omega
  unfold maxLen at hlm
  have HLX := Hid.mk' hll
  clear hll
  go_enter Tryd.func28, Tryd.ntmps28
  go_wp2_with fail
  go_loopw [5, 1] (fun iv kv wr => ∃ (i : Nat) (q' : Parts), i ≤ l.length ∧ iv = .int .i64 (i : Int) ∧ kv = .int .i64 ((k0 + cntTo cntF l i : Nat) : Int) ∧ OwnG 50 proofR wr (.slice (some ⟨g, 0, none⟩) l.length cap) (mapTo (markF mF cntF k0 l) l i) q' ∧ blocksOf q' = blocksOf q ∧ lay.Frame (g :: blocksOf q) w wr) (fun iv _ _ => l.length - (intOf iv).toNat)
  case atStart => exact ⟨0, q, Nat.zero_le _, rfl, by rw [cntTo_zero]; rfl, by rw [mapTo_zero]; exact h, rfl, lay.Frame.refl _ _⟩
  case round =>
    obtain ⟨i, q', hi, rfl, rfl, hO, hq, hFr⟩ := hrel
    by_cases hlt : i < l.length
    · have hii : (i : Int) < (l.length : Int) := by omega
      obtain ⟨L, hL⟩ : ∃ L, mapTo (markF mF cntF k0 l) l i = L := ⟨_, rfl⟩
      have HLL : Hid (L.length = l.length) := by show _ = _; rw [← hL, mapTo_length]
      have hLi : i < L.length := by rw [HLL.out]; exact hlt
      have HLat : Hid (L[i] = l[i]) := by show _ = _; have := mapTo_at (markF mF cntF k0 l) i hlt; simp only [hL] at this; exact this
      have HSET : Hid (L.set i (markF mF cntF k0 l i l[i]) = mapTo (markF mF cntF k0 l) l (i + 1)) := by show _ = _; rw [← hL]; exact mapTo_set _ i hlt
      rw [hL] at hO
      have HCS := Hid.mk' (cntTo_succ cntF l i hlt)
      have hcl := cntTo_le cntF l (i + 1)
      obtain ⟨K, hK⟩ : ∃ K, k0 + cntTo cntF l i = K := ⟨_, rfl⟩
      have HMF : Hid (markF mF cntF k0 l i l[i] = mF K l[i]) := by show _ = _; unfold markF; rw [hK]
      rw [HCS.out] at hcl
      have hcj : K + cntF l[i] ≤ k0 + cntAll cntF l := by omega
      have HKN : Hid (K + cntF l[i] = k0 + cntTo cntF l (i + 1)) := by show _ = _; rw [HCS.out]; omega
      simp only [hK]
      have hK1 : 1 ≤ K := by omega
      have hxl := HLX.out l[i] (List.getElem_mem hlt)
      clear hL hcl hK
      rw [HMF.out] at HSET
      have HJ : Hid (mF K l[i] = ((K : Int), ((K + 1 : Nat) : Int), markI (K + 2) l[i].2.2)) := rfl
      have hcn : cntF l[i] = 2 + cnt l[i].2.2 := rfl
      generalize l[i] = x at *
      obtain ⟨pn, pf, its⟩ := x
      simp only [] at HJ hcn hxl
      obtain ⟨tot, htot⟩ : ∃ t, cntAll cntF l = t := ⟨_, rfl⟩
      rw [htot] at hcj hk
      have hKb : K + 2 + cnt its ≤ 1099511627776 := by omega
      have e1 : ((K + 1 : Nat) : Int) = (K : Int) + 1 := by omega
      rw [e1] at HJ
      clear e1
      have HKI : Hid (((K : Nat) : Int) + 1 + 1 = ((K + 2 : Nat) : Int)) := by show _ = _; omega
      have w0 : (Lit.int .i64 (K : Int)).wf = true := WalkArith.wf_i64 (by omega)
      have w1 : (Lit.int .i64 ((K : Int) + 1)).wf = true := WalkArith.wf_i64 (by omega)
      obtain ⟨us, F, hx, hc, _, _⟩ := hO.open i hLi
      rw [HLat.out] at hx
      obtain ⟨oa, ol, oc, rfl, _⟩ := proof_parts hx
      have c0 := hc 0 _ rfl
      have f0 := hO.frozen (i * 3)
      obtain ⟨q1, hO1, hq1, hg1⟩ := hO.cell1 i hLi 0 (by decide) (.int .i64 (K : Int)) ((K : Int), pf, its) (fun vs F hv => by rw [HLat.out] at hv; exact proof_set0 w0 hv)
      rw [show i * proofR.size + 0 = i * 3 from rfl] at hO1 hg1 c0
      have hFr1 := hFr.grown hg1 (fun k e => by cases e; exact .inl (by simp))
      have hL1 : i < (L.set i ((K : Int), pf, its)).length := by simpa using hLi
      obtain ⟨us1, F1, hx1, hc1, _, _⟩ := hO1.open i hL1
      rw [set_at hLi] at hx1
      obtain ⟨oa1, ol1, oc1, rfl, _⟩ := proof_parts hx1
      have c1 := hc1 1 _ rfl
      have f1 := hO1.frozen (i * 3 + 1)
      obtain ⟨q2, hO2, hq2, hg2⟩ := hO1.cell1 i hL1 1 (by decide) (.int .i64 ((K : Int) + 1)) ((K : Int), (K : Int) + 1, its) (fun vs F hv => by rw [set_at hLi] at hv; exact proof_set1 w1 hv)
      rw [show i * proofR.size + 1 = i * 3 + 1 from rfl] at hO2 hg2 c1
      rw [List.set_set] at hO2
      have hFr2 := hFr1.grown hg2 (fun k e => by cases e; exact .inl (by simp))
      have hL2 : i < (L.set i ((K : Int), (K : Int) + 1, its)).length := by simpa using hLi
      obtain ⟨us3, G, hx3, hc3, hG3, bk3⟩ := hO2.open i hL2
      rw [set_at hLi] at hx3
      obtain ⟨oa3, ol3, oc3, rfl, k1a, k2a, hop3⟩ := proof_parts hx3
      have d2 := hc3 2 _ rfl
      rw [show i * proofR.size + 2 = i * 3 + 2 from rfl] at d2
      have HMO := Hid.mk' (markItems_R (.slice oa3 ol3 oc3) its G (K + 2) _ hop3 (by omega) (by omega) hxl)
      have HBK := Hid.mk' bk3
      have HGB := Hid.mk' hG3
      clear hO hx hc hO1 hx1 hc1 hO2 hx3 hc3 bk3 hop3 hG3 hg1 hg2 hFr1
      go_wp2_with fail
      rw [HKI.out]
      refine HMO.out.mono ?_
      rintro e w5 ⟨rfl, hop5, hf5⟩
      have hO5 := HBK.out w5 ((K : Int), (K : Int) + 1, markI (K + 2) its) G hf5 (fun k hk => hk) (proof_own.2 ⟨_, rfl, k1a, k2a, hop5⟩)
      rw [List.set_set, ← HJ.out, HSET.out] at hO5
      have hFr5 := hFr2.trans hf5 (fun k hk => .inl (List.mem_cons_of_mem _ (by rw [← hq, ← hq1, ← hq2]; exact HGB.out k hk)))
      have HO6 := Hid.mk' hO5
      have HFR := Hid.mk' hFr5
      have HQ6 : Hid (blocksOf q2 = blocksOf q) := hq2.trans (hq1.trans hq)
      have HK6 : Hid (((K + 2 + cnt its : Nat) : Int) = ((k0 + cntTo cntF l (i + 1) : Nat) : Int)) := by show _ = _; rw [← HKN.out, hcn]; omega
      clear hO5 hop5 hf5 hFr2 hFr5 HBK HMO c0 c1 d2 f0 f1
      go_wp2_with fail
      go_roundw
      case rel => exact ⟨i + 1, q2, by omega, by go_num, congrArg (Value.int .i64) HK6.out, HO6.out, HQ6.out, HFR.out⟩
      case measure => simp [intOf]; omega
    · have he : i = l.length := by omega
      subst he
      rw [mapTo_all] at hO
      rw [cntTo_all]
      go_wp2_with fail
      go_ret
      exact ⟨rfl, q', hO, hq, hFr⟩
def mB (k : Nat) (x : Bun) : Bun := (x.1, x.2.1, helps.markS k x.2.2.1.length, markRow mF cntF (k + x.2.2.1.length) x.2.2.2)
def cntB (x : Bun) : Nat := x.2.2.1.length + cntAll cntF x.2.2.2
set_option maxRecDepth 100000 in
set_option maxHeartbeats 2000000 in
theorem heldProofS (a : Option Addr) (n cap : Nat) (l : List Pf) (k0 : Nat) (w : World) (h : SlG proofR w a n (markRow mF cntF k0 l)) (hk1 : 1 ≤ k0) (hk : k0 + cntAll cntF l ≤ 1099511627776) (hll : ∀ x ∈ l, x.2.2.length ≤ 1099511627776) :
    Calls Tryd.prog 30 #[.slice a n cap, .int .i64 (k0 : Int)] w fun e w' => e = .returned (.int .i64 ((k0 + cntAll cntF l : Nat) : Int)) ∧ Below w.heap.size w w' := by
  have hnl : n = l.length := by have := h.1; rw [markRow_length] at this; omega
  subst hnl
  have hlm := h.2.1
  unfold maxLen at hlm
  have HLX := Hid.mk' hll
  clear hll
  go_enter Tryd.func30, Tryd.ntmps30
  go_wp2_with fail
  go_loopw [5, 1] (fun iv kv wr => ∃ i : Nat, i ≤ l.length ∧ iv = .int .i64 (i : Int) ∧ kv = .int .i64 ((k0 + cntTo cntF l i : Nat) : Int) ∧ Below w.heap.size w wr) (fun iv _ _ => l.length - (intOf iv).toNat)
  case atStart => exact ⟨0, Nat.zero_le _, rfl, by rw [cntTo_zero]; rfl, Below.refl _ _⟩
  case round =>
    obtain ⟨i, hi, rfl, rfl, hB⟩ := hrel
    by_cases hlt : i < l.length
    · have hii : (i : Int) < (l.length : Int) := by omega
      obtain ⟨b, off, e⟩ := slg_some h (by omega)
      subst e
      have hlt2 : i < (markRow mF cntF k0 l).length := by rw [markRow_length]; exact hlt
      obtain ⟨oa, ol, oc, c0, c1, c2, hO, _⟩ := proof_at (h.below hB) i hlt2
      have hat := markRow_at mF cntF k0 l i hlt
      simp only [hat] at c0 c1 hO
      have HCS := Hid.mk' (cntTo_succ cntF l i hlt)
      have hcl := cntTo_le cntF l (i + 1)
      obtain ⟨K, hK⟩ : ∃ K, k0 + cntTo cntF l i = K := ⟨_, rfl⟩
      rw [HCS.out] at hcl
      have hcj : K + cntF l[i] ≤ k0 + cntAll cntF l := by omega
      have HKN : Hid (K + cntF l[i] = k0 + cntTo cntF l (i + 1)) := by show _ = _; rw [HCS.out]; omega
      simp only [hK] at c0 c1 hO ⊢
      have hcn : cntF l[i] = 2 + cnt l[i].2.2 := rfl
      have hK1 : 1 ≤ K := by omega
      have hxl := HLX.out l[i] (List.getElem_mem hlt)
      clear hcl hK hat
      generalize l[i] = x at *
      obtain ⟨pn, pf, its⟩ := x
      simp only [mF] at c0 c1 hO hcn hxl
      have hKb : K + 2 + cnt its ≤ 1099511627776 := by omega
      have HO := Hid.mk' (range.heldItemS oa ol oc (K + 2) its wr hO (by omega) (by omega) hxl)
      have e1 : ((K + 1 : Nat) : Int) = (K : Int) + 1 := by omega
      have HKI : Hid (((K : Nat) : Int) + 1 + 1 = ((K + 2 : Nat) : Int)) := by show _ = _; omega
      have HK6 : Hid (((K + 2 + cnt its : Nat) : Int) = ((k0 + cntTo cntF l (i + 1) : Nat) : Int)) := by show _ = _; rw [← HKN.out, hcn]; omega
      rw [e1] at c1
      have r0 : ((K : Int) != (K : Int)) = false := by simp
      have r1 : (((K : Int) + 1) != ((K : Int) + 1)) = false := by simp
      have r2 : ¬ ((K + 2 + cnt its : Nat) : Int) < 0 := by omega
      generalize hKK : ((K + 2 + cnt its : Nat) : Int) = KK at *
      clear hO e1 hKK
      go_wp2_with fail
      rw [HKI.out]
      refine HO.out.mono ?_
      rintro e w2 ⟨rfl, hb2⟩
      have hB2 := hB.trans (hb2.mono hB.size)
      go_wp2_with fail
      go_roundw
      case rel => exact ⟨i + 1, by omega, by go_num, congrArg (Value.int .i64) HK6.out, hB2⟩
      case measure => simp [intOf]; omega
    · have he : i = l.length := by omega
      subst he
      rw [cntTo_all]
      go_wp2_with fail
      go_ret
      exact ⟨rfl, hB⟩
end Go.Proofs.YteammdkipnfmnaaDoor.bun

namespace Go.Proofs.YteammdkipnfmnaaDoor.bun
open Go Go.RowKit Go.Proofs.YteammdkipnfmnaaDoor.base Go.Proofs.YteammdkipnfmnaaDoor.pairs Go.Proofs.YteammdkipnfmnaaDoor.lay Go.Proofs.YteammdkipnfmnaaDoor.range Go.Proofs.YteammdkipnfmnaaDoor.seals
set_option linter.unusedVariables false
set_option linter.unusedSimpArgs false

set_option maxRecDepth 100000 in
theorem nil_markStringS (K : Int) (w : World) : Calls Tryd.prog 26 #[.slice none 0 0, .int .i64 K] w fun e w' => e = .returned (.int .i64 K) ∧ w' = w := by
  go_enter Tryd.func26, Tryd.ntmps26
  go_wp2_with fail
  go_loopw [5, 1] (fun iv kv wr => iv = .int .i64 0 ∧ kv = .int .i64 K ∧ w = wr) (fun _ _ _ => 0)
  case atStart => exact ⟨rfl, rfl, rfl⟩
  case round =>
    obtain ⟨rfl, rfl, rfl⟩ := hrel
    go_wp2_with fail
    go_ret
    exact ⟨rfl, rfl⟩
theorem markTexts_R (v : Value) (l : List ByteArray) (F : List Nat) (k0 : Nat) (w : World) (h : textsR.own w [v] l F) (hk1 : 1 ≤ k0) (hk0 : k0 + l.length ≤ 1099511627776) :
    Calls Tryd.prog 26 #[v, .int .i64 (k0 : Nat)] w fun e w' => e = .returned (.int .i64 ((k0 + l.length : Nat) : Int)) ∧ textsR.own w' [v] (helps.markS k0 l.length) F ∧ lay.Frame F w w' := by
  obtain ⟨v', q, e, rfl, hO⟩ := id h
  cases e
  rcases hO.shape with ⟨rfl, rfl, rfl⟩ | ⟨g, cap, rfl, h1, h2⟩
  · refine (nil_markStringS (k0 : Int) w).mono ?_
    rintro e w' ⟨rfl, rfl⟩
    exact ⟨rfl, own_nil _ _ _, lay.Frame.refl _ _⟩
  · obtain ⟨hr, hs, hF⟩ := texts_own.1 h
    rw [hF]
    refine (helps.markStringS g l.length cap k0 0 l w ⟨rfl, hs, hr⟩ hk1 hk0).mono ?_
    rintro e w' ⟨rfl, hO', hg⟩
    refine ⟨rfl, texts_own.2 ⟨?_, hO'.2.1, rfl⟩, lay.Frame.of_grown hg (fun k e => .inl (by cases e; simp [Value.ownBlock]))⟩
    rw [helps.markS_length]
    exact hO'.2.2
set_option maxRecDepth 100000 in
theorem nil_markProofS (K : Int) (w : World) : Calls Tryd.prog 28 #[.slice none 0 0, .int .i64 K] w fun e w' => e = .returned (.int .i64 K) ∧ w' = w := by
  go_enter Tryd.func28, Tryd.ntmps28
  go_wp2_with fail
  go_loopw [5, 1] (fun iv kv wr => iv = .int .i64 0 ∧ kv = .int .i64 K ∧ w = wr) (fun _ _ _ => 0)
  case atStart => exact ⟨rfl, rfl, rfl⟩
  case round =>
    obtain ⟨rfl, rfl, rfl⟩ := hrel
    go_wp2_with fail
    go_ret
    exact ⟨rfl, rfl⟩
theorem markProofs_R (v : Value) (l : List Pf) (F : List Nat) (k0 : Nat) (w : World) (h : proofsR.own w [v] l F) (hk1 : 1 ≤ k0) (hk : k0 + cntAll cntF l ≤ 1099511627776) (hll : ∀ x ∈ l, x.2.2.length ≤ 1099511627776) :
    Calls Tryd.prog 28 #[v, .int .i64 (k0 : Nat)] w fun e w' => e = .returned (.int .i64 ((k0 + cntAll cntF l : Nat) : Int)) ∧ proofsR.own w' [v] (markRow mF cntF k0 l) F ∧ lay.Frame F w w' := by
  obtain ⟨v', q, e, rfl, hO⟩ := id h
  cases e
  rcases hO.shape with ⟨rfl, rfl, rfl⟩ | ⟨g, cap, rfl, h1, h2⟩
  · refine (nil_markProofS (k0 : Int) w).mono ?_
    rintro e w' ⟨rfl, rfl⟩
    exact ⟨rfl, own_nil _ _ _, lay.Frame.refl _ _⟩
  · refine (markProofS g l.length cap l q k0 w hO hk1 hk hll).mono ?_
    rintro e w' ⟨rfl, q', hO', hq, hf⟩
    exact ⟨rfl, ⟨_, q', rfl, by rw [hq], hO'⟩, hf⟩
set_option maxRecDepth 100000 in
set_option maxHeartbeats 1000000 in
theorem markBundle (us : List Value) (x : Bun) (F : List Nat) (k0 : Nat) (w : World) (h : bundleR.own w us x F) (hk1 : 1 ≤ k0) (hk : k0 + cntB x ≤ 1099511627776) (hll : ∀ y ∈ x.2.2.2, y.2.2.length ≤ 1099511627776) :
    Calls Tryd.prog 15 #[.agg us.toArray, .int .i64 (k0 : Nat)] w fun e w' => e = .returned (.int .i64 ((k0 + cntB x : Nat) : Int)) ∧ bundleR.own w' us (mB k0 x) F ∧ lay.Frame F w w' := by
  obtain ⟨v1, v2, F1, F2, rfl, rfl, k1, k2, h1, h2, hn⟩ := bundle_own.1 h
  obtain ⟨n1, n2, n3⟩ := nodup_parts hn
  have hcb : cntB x = x.2.2.1.length + cntAll cntF x.2.2.2 := rfl
  obtain ⟨W, hW⟩ : ∃ W, w.alloc (.cells #[.int .i64 x.1, .string x.2.1, v1, v2] 30) = W := ⟨_, rfl⟩
  have hB : Below w.heap.size w W := by rw [← hW]; exact below_make
  have hbx : BoxIn w.heap.size 30 [] [.int .i64 x.1, .string x.2.1, v1, v2] [] W := by rw [← hW]; exact boxIn_new w _ _
  have hl1 := textsR.ownLt h1
  have hl2 := proofsR.ownLt h2
  have HM := Hid.mk' (markTexts_R v1 x.2.2.1 F1 k0 W (textsR.ownBelow h1 hB) hk1 (by omega))
  obtain ⟨ra, rn, rc, rfl⟩ := slice_shape h1
  obtain ⟨pa, pn, pc, rfl⟩ := slice_shape h2
  have H2 := Hid.mk' (proofsR.ownBelow h2 hB)
  have HW := Hid.mk' hW
  have HFW : Hid (lay.Frame (F1 ++ F2) w W) := lay.Frame.of_below hB
  have HKK : Hid (((k0 + cntB x : Nat) : Int) = ((k0 + x.2.2.1.length + cntAll cntF x.2.2.2 : Nat) : Int)) := by show _ = _; rw [hcb]; omega
  obtain ⟨y0, y1, y2, y3⟩ := box4 hbx
  rw [← hW] at y0 y1 y2 y3
  have hkb : k0 + x.2.2.1.length + cntAll cntF x.2.2.2 ≤ 1099511627776 := by omega
  clear hW h h1 h2 hcb
  go_enter Tryd.func15, Tryd.ntmps15
  go_wp2_with fail
  rw [HW.out]
  refine HM.out.mono ?_
  rintro e w1 ⟨rfl, h1', hf1⟩
  have hbx1 := hbx.frame hf1 (fun hk => by have := hl1 _ hk; omega)
  have h2' := proofsR.ownFrame H2.out hf1 (fun k hk hk2 => n3 k hk2 hk)
  have HP := Hid.mk' (markProofs_R (.slice pa pn pc) x.2.2.2 F2 (k0 + x.2.2.1.length) w1 h2' (by omega) hkb hll)
  have H1 := Hid.mk' h1'
  have hf1' := HFW.out.trans (hf1.mono (fun k hk => List.mem_append.2 (.inl hk))) (fun k hk => .inl hk)
  clear y0 y1 y2 y3 HM HW h1' h2'
  obtain ⟨y0, y1, y2, y3⟩ := box4 hbx1
  generalize ((k0 + x.2.2.1.length : Nat) : Int) = KA at *
  go_wp2_with fail
  refine HP.out.mono ?_
  rintro e w2 ⟨rfl, h2'', hf2⟩
  have HO : Hid (bundleR.own w2 [.int .i64 x.1, .string x.2.1, .slice ra rn rc, .slice pa pn pc] (mB k0 x) (F1 ++ F2)) := bundle_own.2 ⟨_, _, F1, F2, rfl, rfl, k1, k2, textsR.ownFrame H1.out hf2 (fun k hk hk2 => n3 k hk hk2), h2'', hn⟩
  have HF2 : Hid (lay.Frame (F1 ++ F2) w w2) := hf1'.trans (hf2.mono (fun k hk => List.mem_append.2 (.inr hk))) (fun k hk => .inl hk)
  clear h2'' hf2 HP
  go_wp2_with fail
  go_ret
  exact ⟨by rw [HKK.out]; rfl, HO.out, HF2.out⟩
set_option maxRecDepth 100000 in
set_option maxHeartbeats 1000000 in
theorem heldBundle (ra : Option Addr) (rn rc : Nat) (pa : Option Addr) (pn pc : Nat) (x : Bun) (k0 : Nat) (w : World) (h : SeeBu w ra rn rc pa pn pc (mB k0 x)) (hk1 : 1 ≤ k0) (hk : k0 + cntB x ≤ 1099511627776) (hll : ∀ y ∈ x.2.2.2, y.2.2.length ≤ 1099511627776) :
    Calls Tryd.prog 16 #[.agg #[.int .i64 x.1, .string x.2.1, .slice ra rn rc, .slice pa pn pc], .int .i64 (k0 : Nat)] w fun e w' => e = .returned (.int .i64 ((k0 + cntB x : Nat) : Int)) ∧ Below w.heap.size w w' := by
  have hrl : rn = x.2.2.1.length := by have := h.roots.1; simp only [mB] at this; rw [helps.markS_length] at this; omega
  subst hrl
  have hcb : cntB x = x.2.2.1.length + cntAll cntF x.2.2.2 := rfl
  obtain ⟨W, hW⟩ : ∃ W, w.alloc (.cells #[.int .i64 x.1, .string x.2.1, .slice ra x.2.2.1.length rc, .slice pa pn pc] 30) = W := ⟨_, rfl⟩
  have hB : Below w.heap.size w W := by rw [← hW]; exact below_make
  have hbx : BoxIn w.heap.size 30 [] [.int .i64 x.1, .string x.2.1, .slice ra x.2.2.1.length rc, .slice pa pn pc] [] W := by rw [← hW]; exact boxIn_new w _ _
  have HM := Hid.mk' (helps.heldStringS ra x.2.2.1.length rc k0 W (h.roots.below hB) hk1 (by omega))
  have HP := Hid.mk' (fun wx (hx : Below W.heap.size W wx) => heldProofS pa pn pc x.2.2.2 (k0 + x.2.2.1.length) wx ((h.proofs.below hB).below hx) (by omega) (by omega) hll)
  have HW := Hid.mk' hW
  have HKK : Hid (((k0 + cntB x : Nat) : Int) = ((k0 + x.2.2.1.length + cntAll cntF x.2.2.2 : Nat) : Int)) := by show _ = _; rw [hcb]; omega
  obtain ⟨y0, y1, y2, y3⟩ := box4 hbx
  rw [← hW] at y0 y1 y2 y3
  have r1 : ¬ ((k0 + x.2.2.1.length : Nat) : Int) < 0 := by omega
  have r2 : ¬ ((k0 + x.2.2.1.length + cntAll cntF x.2.2.2 : Nat) : Int) < 0 := by omega
  generalize ((k0 + x.2.2.1.length + cntAll cntF x.2.2.2 : Nat) : Int) = KB at *
  generalize ((k0 + x.2.2.1.length : Nat) : Int) = KA at *
  clear hW h hcb hk
  go_enter Tryd.func16, Tryd.ntmps16
  go_wp2_with fail
  rw [HW.out]
  refine HM.out.mono ?_
  rintro e w1 ⟨rfl, hb1⟩
  clear y0 y1 y2 y3 HM HW
  obtain ⟨y0, y1, y2, y3⟩ := box4 (hbx.below hb1)
  go_wp2_with fail
  refine (HP.out _ hb1).mono ?_
  rintro e w2 ⟨rfl, hb2⟩
  have hb3 := hb1.trans (hb2.mono hb1.size)
  go_wp2_with fail
  go_ret
  exact ⟨by rw [HKK.out]; rfl, hB.trans (hb3.mono hB.size)⟩
end Go.Proofs.YteammdkipnfmnaaDoor.bun

namespace Go.Proofs.YteammdkipnfmnaaDoor.seals
open Go Go.RowKit Go.Proofs.YteammdkipnfmnaaDoor.base Go.Proofs.YteammdkipnfmnaaDoor.pairs Go.Proofs.YteammdkipnfmnaaDoor.lay
set_option linter.unusedVariables false
set_option linter.unusedSimpArgs false

def slz (x : Seal) : Nat := x.2.1.size + (x.2.2.1.size + (x.2.2.2.length + puttexts.sum x.2.2.2))
set_option maxRecDepth 100000 in
set_option maxHeartbeats 2000000 in
theorem szSeal (x : Seal) (ra : Option Addr) (rn rc : Nat) (L : Nat) (w : World) (h1 : SlS w ra rn x.2.2.2) (hp : x.2.1.size ≤ maxLen) (hs : x.2.2.1.size ≤ maxLen) (hL : L ≤ 1099511627776) :
    Calls Tryd.prog 4 #[.agg #[.int .i64 x.1, .string x.2.1, .string x.2.2.1, .slice ra rn rc], .int .i64 (L : Int)] w fun e w' => e = .returned (.int .i64 (puttexts.szR L (slz x))) ∧ Below w.heap.size w w' := by
  unfold maxLen at hp hs
  obtain ⟨W, hW⟩ : ∃ W, w.alloc (.cells #[.int .i64 x.1, .string x.2.1, .string x.2.2.1, .slice ra rn rc] 24) = W := ⟨_, rfl⟩
  have hB : Below w.heap.size w W := by rw [← hW]; exact below_make
  have HW := Hid.mk' hW
  have HH := Hid.mk' (fun (M : Nat) (hM : M ≤ 1099511627776) => puttexts.szStringS ra rn rc x.2.2.2 M W (h1.below hB) hM)
  have HZ : Hid (slz x = x.2.1.size + (x.2.2.1.size + (x.2.2.2.length + puttexts.sum x.2.2.2))) := rfl
  generalize slz x = Z at *
  generalize x.2.2.2.length + puttexts.sum x.2.2.2 = z2 at *
  clear hW h1
  by_cases q0 : (L : Int) - (x.2.1.size : Int) < 0
  · have HR : Hid (puttexts.szR L Z = -1) := by show _ = _; rw [HZ.out, puttexts.szR_neg (by omega)]
    clear HZ HH
    go_enter Tryd.func4, Tryd.ntmps4
    go_wp2_with fail
    go_ret
    rw [HW.out]
    exact ⟨ret_int HR.out.symm, hB⟩
  obtain ⟨m, e0⟩ : ∃ m : Nat, (L : Int) - (x.2.1.size : Int) = (m : Int) := ⟨L - x.2.1.size, by omega⟩
  rw [e0] at q0
  by_cases q1 : (m : Int) - (x.2.2.1.size : Int) < 0
  · have HR : Hid (puttexts.szR L Z = -1) := by show _ = _; rw [HZ.out, puttexts.szR_neg (by omega)]
    clear HZ HH
    go_enter Tryd.func4, Tryd.ntmps4
    go_wp2_with fail
    go_ret
    rw [HW.out]
    exact ⟨ret_int HR.out.symm, hB⟩
  obtain ⟨m2, e1⟩ : ∃ m2 : Nat, (m : Int) - (x.2.2.1.size : Int) = (m2 : Int) := ⟨m - x.2.2.1.size, by omega⟩
  rw [e1] at q1
  have hS := HH.out m2 (by omega)
  by_cases q2 : z2 ≤ m2
  · rw [puttexts.szR_pos q2] at hS
    obtain ⟨m3, e2⟩ : ∃ m3 : Nat, (m2 : Int) - (z2 : Int) = (m3 : Int) := ⟨m2 - z2, by omega⟩
    rw [e2] at hS
    have q3 : ¬ (m3 : Int) < 0 := by omega
    have HR : Hid (puttexts.szR L Z = (m3 : Int)) := by show _ = _; rw [HZ.out, puttexts.szR_pos (by omega)]; omega
    have HS := Hid.mk' hS
    clear HZ HH hS q2 e2
    go_enter Tryd.func4, Tryd.ntmps4
    go_wp2_with fail
    rw [HW.out]
    refine HS.out.mono ?_
    rintro e w1 ⟨rfl, rfl⟩
    go_wp2_with fail
    go_ret
    exact ⟨ret_int HR.out.symm, hB⟩
  · rw [puttexts.szR_neg (by omega)] at hS
    have HR : Hid (puttexts.szR L Z = -1) := by show _ = _; rw [HZ.out, puttexts.szR_neg (by omega)]
    have HS := Hid.mk' hS
    clear HZ HH hS q2
    go_enter Tryd.func4, Tryd.ntmps4
    go_wp2_with fail
    rw [HW.out]
    refine HS.out.mono ?_
    rintro e w1 ⟨rfl, rfl⟩
    go_wp2_with fail
    go_ret
    exact ⟨ret_int HR.out.symm, hB⟩
end Go.Proofs.YteammdkipnfmnaaDoor.seals

namespace Go.Proofs.YteammdkipnfmnaaDoor.seals
open Go Go.RowKit Go.Proofs.YteammdkipnfmnaaDoor.base Go.Proofs.YteammdkipnfmnaaDoor.pairs Go.Proofs.YteammdkipnfmnaaDoor.lay
set_option linter.unusedVariables false
set_option linter.unusedSimpArgs false

theorem toStringS_V (a : Option Addr) (len cap : Nat) (l : List ByteArray) (w : World) (h : SlS w a len l) (hsz : len ≤ 1099511627776) : Calls Tryd.prog 20 #[.slice a len cap] w (RetV textsR w l) := by
  refine (helps.toStringS a len cap l w h hsz).mono ?_
  rintro e w' ⟨g, rfl, hO, hb⟩
  have hO' := hO.mono (Nat.zero_le _)
  refine ⟨_, _, rfl, texts_own.2 ⟨by rw [h.1]; exact hO'.2.2, hO.2.1, rfl⟩, fun k hk => ?_, hb⟩
  have : k = g := by simpa [Value.ownBlock] using hk
  subst this
  exact hO.lt.1
set_option maxRecDepth 100000 in
set_option maxHeartbeats 4000000 in
theorem toSeal (no : Int) (pv su : ByteArray) (oa : Option Addr) (ol oc : Nat) (rs : List ByteArray) (w : World) (k1 : (Lit.int .i64 no).wf = true) (k2 : pv.size ≤ maxLen) (k3 : su.size ≤ maxLen) (hO0 : SlS w oa ol rs) (hs1_ : ol ≤ 1099511627776) :
    Calls Tryd.prog 7 #[.agg #[.int .i64 no, .string pv, .string su, .slice oa ol oc]] w (RetR sealR w (no, pv, su, rs)) := by
  have H1 := Hid.mk' (fun wx (hx : Below w.heap.size w wx) => toStringS_V oa ol oc rs wx (hO0.below hx) hs1_)
  clear hO0
  obtain ⟨W1, hW1⟩ : ∃ W1, w.alloc (.cells #[.int .i64 no, .string pv, .string su, .slice oa ol oc] 24) = W1 := ⟨_, rfl⟩
  have hb1 : Below w.heap.size w W1 := by rw [← hW1]; exact below_make
  have hA1 : BoxIn w.heap.size 24 [] [.int .i64 no, .string pv, .string su, .slice oa ol oc] [] W1 := by rw [← hW1]; exact boxIn_new w _ _
  have hs1 : W1.heap.size = w.heap.size + 1 := by rw [← hW1]; simp
  obtain ⟨W2, hW2⟩ : ∃ W2, W1.alloc (.cells #[.int .i64 0, .string ⟨#[]⟩, .string ⟨#[]⟩, .slice none 0 0] 32) = W2 := ⟨_, rfl⟩
  have hb2 : Below W1.heap.size W1 W2 := by rw [← hW2]; exact below_make
  have hR2 : BoxIn (w.heap.size + 1) 32 [] [.int .i64 0, .string ⟨#[]⟩, .string ⟨#[]⟩, .slice none 0 0] [] W2 := by rw [← hW2, ← hs1]; exact boxIn_new W1 _ _
  have hs2 : W2.heap.size = w.heap.size + 1 + 1 := by rw [← hW2]; simp [hs1]
  obtain ⟨W, hW⟩ : ∃ W, W2.alloc (.cells #[.int .i64 no, .string pv, .string su, .slice none 0 0] 32) = W := ⟨_, rfl⟩
  have hb3 : Below W2.heap.size W2 W := by rw [← hW]; exact below_make
  have hO : BoxIn (w.heap.size + 1 + 1) 32 [] [.int .i64 no, .string pv, .string su, .slice none 0 0] [] W := by rw [← hW, ← hs2]; exact boxIn_new W2 _ _
  have hA := (hA1.below hb2).below hb3
  have hR := hR2.below hb3
  have hB := (hb1.trans (hb2.mono hb1.size)).trans (hb3.mono (Nat.le_trans hb1.size hb2.size))
  have HWW : Hid (((w.alloc (.cells #[.int .i64 no, .string pv, .string su, .slice oa ol oc] 24)).alloc (.cells #[.int .i64 0, .string ⟨#[]⟩, .string ⟨#[]⟩, .slice none 0 0] 32)).alloc (.cells #[.int .i64 no, .string pv, .string su, .slice none 0 0] 32) = W) := by show _ = _; rw [hW1, hW2, hW]
  clear hb1 hb2 hb3 hA1 hR2 hs1 hs2 hW1 hW2 hW
  obtain ⟨c0, c1, c2, c3⟩ := cells4 hA
  rw [← HWW.out] at c0 c1 c2 c3
  have hbs0 := hO.lt
  go_enter Tryd.func7, Tryd.ntmps7
  go_wp2_with fail
  rw [HWW.out]
  refine (H1.out W hB).mono ?_
  rintro e w1 ⟨r0, F0, rfl, h0, hF0, hbn⟩
  obtain ⟨ra0, rn0, rc0, rfl⟩ := slice_shape h0
  replace hO := hO.below hbn
  replace hA := hA.below hbn
  replace hR := hR.below hbn
  replace hB := hB.trans (hbn.mono hB.size)
  have n0 := hO.set 3 (by simp) (.slice ra0 rn0 rc0)
  have u0 := hO.cell 3 _ rfl
  have v0 := hO.fz 3
  simp only [List.length_nil, Nat.zero_add] at n0 u0
  have gg := n0.2
  replace hB := hB.grown gg hB.size (fun k e => by cases e; omega)
  replace hR := hR.grown gg (by simp)
  replace hA := hA.grown gg (by simp; omega)
  replace h0 := textsR.ownGrown h0 gg (fun k hk e => by have := hF0 k hk; cases e; omega)
  replace hO : BoxIn (w.heap.size + 1 + 1) 32 [] [.int .i64 no, .string pv, .string su, .slice ra0 rn0 rc0] [] _ := n0.1
  clear c0 c1 c2 c3
  obtain ⟨q0, q1, q2, q3⟩ := cells4 hO
  obtain ⟨z0, z1, z2, z3⟩ := cells4 hR
  have f0 := hR.fz 0
  have f1 := hR.fz 1
  have f2 := hR.fz 2
  have f3 := hR.fz 3
  have hS := hR.whole [.int .i64 no, .string pv, .string su, .slice ra0 rn0 rc0] rfl
  obtain ⟨y0, y1, y2, y3⟩ := cells4 hS.1
  simp only [putAll, Nat.zero_add, Nat.reduceAdd] at y0 y1 y2 y3
  have HBz := Hid.mk' (hB.grown hS.2 hB.size (fun j e => by cases e; omega))
  replace h0 := textsR.ownGrown h0 hS.2 (fun k hk e => by have := hF0 k hk; cases e; omega)
  have HOW : Hid (sealR.own (putAll (w1.setCell ⟨w.heap.size + 1 + 1, 3, none⟩ (.slice ra0 rn0 rc0)) (w.heap.size + 1) 0 [.int .i64 no, .string pv, .string su, .slice ra0 rn0 rc0]) [.int .i64 no, .string pv, .string su, .slice ra0 rn0 rc0] (no, pv, su, rs) (F0)) := seal_own.2 ⟨_, rfl, k1, k2, k3, h0⟩
  have HFN : Hid (∀ k ∈ F0, w.heap.size ≤ k) := fun k hk => by
    have := hF0 k hk; omega
  clear h0 hS 
  go_wp2_with fail
  refine bodyPost_ret (v := .agg #[.int .i64 no, .string pv, .string su, .slice ra0 rn0 rc0]) ?_ rfl ⟨_, _, rfl, HOW.out, HFN.out, HBz.out⟩
  simp [results, Tryd.results7, go_sem, y0, y1, y2, y3]
theorem toSealR (u0 u1 u2 u3 : Value) (x : Seal) (w : World) (h : sealR.see w [u0, u1, u2, u3] x) (h1 : x.2.2.2.length ≤ 1099511627776) : Calls Tryd.prog 7 #[.agg #[u0, u1, u2, u3]] w (RetR sealR w x) := by
  obtain ⟨oa, ol, oc, e, k1, k2, k3, hO, _⟩ := seal_see.1 h
  simp only [List.cons.injEq, and_true] at e
  obtain ⟨rfl, rfl, rfl, rfl⟩ := e
  exact toSeal x.1 x.2.1 x.2.2.1 oa ol oc x.2.2.2 w k1 k2 k3 hO (by have := hO.1; omega)
end Go.Proofs.YteammdkipnfmnaaDoor.seals

namespace Go.Proofs.YteammdkipnfmnaaDoor.seals
open Go Go.RowKit Go.Proofs.YteammdkipnfmnaaDoor.base Go.Proofs.YteammdkipnfmnaaDoor.pairs Go.Proofs.YteammdkipnfmnaaDoor.lay
set_option linter.unusedVariables false
set_option linter.unusedSimpArgs false

set_option maxRecDepth 100000 in
theorem reads_seal : Reads Tryd.prog 24 sealR := fun H enc W fuel vs x hl h => by
  obtain ⟨xs, m, _, _, _, hxl, hel⟩ := DataW.trod_struct Tryd.underlying24 h
  match vs, (show vs.length = 4 from hl) with
  | [v0, v1, v2, v3], _ =>
    match xs, (show xs.length = 4 from hxl) with
    | [x0, x1, x2, x3], _ =>
      have k0 := hel 0 _ rfl
      have k1 := hel 1 _ rfl
      have k2 := hel 2 _ rfl
      have k3 := hel 3 _ rfl
      have e0 : Tryd.prog.cellsOf 3 = 1 := by kernel_rfl
      have e1 : Tryd.prog.cellsOf 9 = 1 := by kernel_rfl
      have e2 : Tryd.prog.cellsOf 22 = 1 := by kernel_rfl
      simp [e0, e1, e2] at k0 k1 k2 k3
      obtain ⟨y0, s0⟩ := (reads_int Tryd.underlying3) H enc W m _ x0 rfl k0
      obtain ⟨y1, s1⟩ := (reads_str Tryd.underlying9) H enc W m _ x1 rfl k1
      obtain ⟨y2, s2⟩ := (reads_str Tryd.underlying9) H enc W m _ x2 rfl k2
      obtain ⟨y3, s3⟩ := (reads_slice _ Tryd.underlying22 (by kernel_rfl) (by decide) (reads_str Tryd.underlying9)) H enc W m _ x3 rfl k3
      exact ⟨(y0, (y1, (y2, y3))), ⟨[v0], [v1, v2, v3], rfl, s0, ⟨[v1], [v2, v3], rfl, s1, ⟨[v2], [v3], rfl, s2, s3⟩⟩⟩⟩
end Go.Proofs.YteammdkipnfmnaaDoor.seals

namespace Go.Proofs.YteammdkipnfmnaaDoor.door
open Go.ChangeShapes Go.WideShapes Go.ChangeAt Go.RowKit
open Go.ChangeMaps (open_string shut_string)
set_option linter.unusedVariables false
open Go.Proofs.YteammdkipnfmnaaDoor.base

def kd (H : Type) : List (DataW H) := sha.K64.map fun (n : Nat) => .lit (.int .u32 (n : Int))
abbrev laidD : List (String × DataW Unit) := [("loop.example/g00244/impl.roundWords", Rows.laid_loop_example_g00244_impl_roundWords)]
theorem laid_kd : (Rows.laid_loop_example_g00244_impl_roundWords : DataW Unit) = .agg (kd Unit) := rfl
theorem own : ownKnob Tryd.prog.godebug = none := by kernel_rfl
theorem laidOut : laidOutB Tryd.prog = true := by kernel_rfl
theorem gRound : Tryd.prog.globalNamed "loop.example/g00244/impl.roundWords" = some 0 := by kernel_rfl
theorem tRound : (Tryd.prog.globals[0]?).map (·.type) = some 128 := by kernel_rfl
theorem words_of_laid {W : World} (h : laidMetH Tryd.prog laidD W) : sha.KW W := by
  rw [MakeChecks.laidMetH_plain _ _ _ (by kernel_rfl)] at h
  obtain ⟨ps, ⟨g, t, cs, fuel, p, q, hg, ht, hv, hd, _, _⟩, _, _⟩ := h
  obtain rfl := Option.some.inj (gRound.symm.trans hg)
  obtain rfl := Option.some.inj (tRound.symm.trans ht)
  have c1 : Tryd.prog.cellsOf 116 = 1 := by kernel_rfl
  have c64 : Tryd.prog.cellsOf 128 = 64 := by kernel_rfl
  obtain ⟨xs, m, _, ex, hlen, hl, hel⟩ := DataW.trod_array Tryd.underlying128 hd
  rw [c64] at hlen
  rw [laid_kd] at ex
  have e3 := (DataW.agg.inj (Prod.mk.inj ex).1)
  intro i hi
  rw [World.var?_cell gRound hv i]
  have hk := hel i hi
  have hxi : i < xs.length := by omega
  rw [c1, Nat.mul_one, List.getElem?_eq_getElem hxi] at hk
  obtain ⟨z, a0, b0, _⟩ := DataW.trod_int Tryd.underlying116 hk
  have hcs : cs.toList[i]? = some (.int .u32 z) := by
    have := congrArg (·[0]?) a0
    simpa using this
  have hz : (kd Unit)[i]? = some (.lit (.int .u32 z)) := by
    rw [e3]
    simp [hxi, b0]
  have hKl : sha.K64.length = 64 := rfl
  have hz2 : (kd Unit)[i]? = some (.lit (.int .u32 ((sha.K64.getD i 0 : Nat) : Int))) := by
    simp [kd, List.getD, show i < sha.K64.length by omega]
  have e4 : z = ((sha.K64.getD i 0 : Nat) : Int) := by
    have := hz.symm.trans hz2
    simpa using this
  rw [← e4, ← hcs]
  simp

end Go.Proofs.YteammdkipnfmnaaDoor.door
