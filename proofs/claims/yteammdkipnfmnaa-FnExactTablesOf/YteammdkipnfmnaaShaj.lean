/- The laws' marks on those who decide. The laws' marks on those who decide: whether they are held; choices; the whole. The laws' helpers for rows of words: alike. The laws' marks on rows of words: whether they are held. The laws' marks on rows of words. -/
import Derived.Test.YteammdkipnfmnaaShai
import Derived.Test.YteammdkipnfmnaaShad
import Derived.Test.YteammdkipnfmnaaShaf
namespace Go.Proofs.Yteammdkipnfmnaa.cos
open Go Go.RowKit Go.Proofs.Yteammdkipnfmnaa.base Go.Proofs.Yteammdkipnfmnaa.pairs Go.Proofs.Yteammdkipnfmnaa.ords Go.Proofs.Yteammdkipnfmnaa.lay Go.Proofs.Yteammdkipnfmnaa.wds
set_option linter.unusedVariables false
set_option linter.unusedSimpArgs false

set_option maxRecDepth 100000 in
theorem markOps_nil (k0 : Nat) (w : World) : Calls Try.prog 51 #[.slice none 0 0, .int .i64 (k0 : Int)] w fun e w' => e = .returned (.int .i64 (k0 : Int)) ∧ w' = w := by
  go_enter Try.func51, Try.ntmps51
  go_wp2
  go_loopw [5, 1] (fun i x wr => i = .int .i64 0 ∧ x = .int .i64 (k0 : Int) ∧ wr = w) (fun _ _ _ => 0)
  case atStart => exact ⟨rfl, rfl, rfl⟩
  case round =>
    obtain ⟨rfl, rfl, rfl⟩ := hrel
    go_wp2
    go_ret
    exact ⟨rfl, rfl⟩
theorem markOps_R (a : Option Addr) (n c : Nat) (l : List Od) (F : List Nat) (k0 : Nat) (w : World) (h : opsR.own w [.slice a n c] l F) (hk1 : 1 ≤ k0) (hk : k0 + 3 * l.length ≤ 1099511627776) :
    Calls Try.prog 51 #[.slice a n c, .int .i64 (k0 : Int)] w fun e w' => e = .returned (.int .i64 ((k0 + 3 * l.length : Nat) : Int)) ∧ opsR.own w' [.slice a n c] (marksO k0 l.length) F ∧ lay.Frame F w w' := by
  obtain ⟨hV, rfl⟩ := ops_own.1 h
  rcases hV.shape with ⟨e, rfl⟩ | ⟨g, cap, e, hO⟩
  · cases e
    refine (markOps_nil k0 w).mono ?_
    rintro e w' ⟨rfl, rfl⟩
    exact ⟨by simp, ops_own.2 ⟨ownV_nil _ _, rfl⟩, lay.Frame.refl _ _⟩
  · simp only [Value.slice.injEq] at e
    obtain ⟨rfl, rfl, rfl⟩ := e
    refine (markOpS g l.length _ k0 0 l w hO hk1 hk).mono ?_
    rintro e w' ⟨rfl, hO', hg⟩
    refine ⟨rfl, ops_own.2 ⟨⟨hO'.2.1, ?_⟩, rfl⟩, lay.Frame.of_grown hg (fun k e => by cases e; exact .inl (by simp [Value.ownBlock]))⟩
    have := hO'.2.2
    rwa [marksO_length]
set_option maxRecDepth 100000 in
theorem markInts_nil (k0 : Nat) (w : World) : Calls Try.prog 67 #[.slice none 0 0, .int .i64 (k0 : Int)] w fun e w' => e = .returned (.int .i64 (k0 : Int)) ∧ w' = w := by
  go_enter Try.func67, Try.ntmps67
  go_wp2
  go_loopw [5, 1] (fun i x wr => i = .int .i64 0 ∧ x = .int .i64 (k0 : Int) ∧ wr = w) (fun _ _ _ => 0)
  case atStart => exact ⟨rfl, rfl, rfl⟩
  case round =>
    obtain ⟨rfl, rfl, rfl⟩ := hrel
    go_wp2
    go_ret
    exact ⟨rfl, rfl⟩
theorem marksZ_wf (k0 n : Nat) (hk : k0 + n ≤ 1099511627776) : ∀ z ∈ marksZ k0 n, (Lit.int .i64 z).wf = true := by
  intro z hz
  obtain ⟨j, hj, rfl⟩ := List.mem_map.1 hz
  have := List.mem_range.1 hj
  exact WalkArith.wf_i64 (by omega)
theorem markInts_R (a : Option Addr) (n c : Nat) (l : List Int) (F : List Nat) (k0 : Nat) (w : World) (h : intsR.own w [.slice a n c] l F) (hk : k0 + l.length ≤ 1099511627776) :
    Calls Try.prog 67 #[.slice a n c, .int .i64 (k0 : Int)] w fun e w' => e = .returned (.int .i64 ((k0 + l.length : Nat) : Int)) ∧ intsR.own w' [.slice a n c] (marksZ k0 l.length) F ∧ lay.Frame F w w' := by
  obtain ⟨hV, rfl⟩ := ints_own.1 h
  rcases hV.2.2 with ⟨e, h0⟩ | ⟨g, cap, cur, e, _⟩
  · cases e
    have : l = [] := List.eq_nil_of_length_eq_zero h0
    subst this
    refine (markInts_nil k0 w).mono ?_
    rintro e w' ⟨rfl, rfl⟩
    exact ⟨by simp, ints_own.2 ⟨⟨fun _ h => absurd h List.not_mem_nil, World.ownsRow_nil _ _ _ _⟩, rfl⟩, lay.Frame.refl _ _⟩
  · simp only [Value.slice.injEq] at e
    obtain ⟨rfl, rfl, rfl⟩ := e
    refine (markIntS g l.length _ k0 0 l w ⟨rfl, hV.2⟩ hk).mono ?_
    rintro e w' ⟨rfl, hO', hg⟩
    refine ⟨rfl, ints_own.2 ⟨⟨marksZ_wf k0 l.length hk, ?_⟩, rfl⟩, lay.Frame.of_grown hg (fun k e => by cases e; exact .inl (by simp [Value.ownBlock]))⟩
    have := hO'.2
    rwa [marksZ_length]
def mJ (k : Nat) (j : Jb) : Jb := ((k : Int), marksO (k + 1) j.2.1.length, ((k + 1 + 3 * j.2.1.length : Nat) : Int), marksZ (k + 2 + 3 * j.2.1.length) j.2.2.2.length)
def mCh (k : Nat) (c : Ch) : Ch := ((k : Int), decide ((k + 1) % 3 = 0))
def mLog (k : Nat) (l : List Ch) : List Ch := markRow mCh (fun _ => 2) k l
def mCo (k : Nat) (c : Co) : Co := (c.1, c.2.1, c.2.2.1, markRow mJ cntJ k c.2.2.2.1, mLog (k + cntAll cntJ c.2.2.2.1) c.2.2.2.2.1, c.2.2.2.2.2)
theorem job_set0 {w : World} {vs : List Value} {j : Jb} {F : List Nat} {k : Int} (hk : (Lit.int .i64 k).wf = true) (h : jobR.own w vs j F) : jobR.own w (vs.set 0 (.int .i64 k)) (k, j.2.1, j.2.2.1, j.2.2.2) F := by
  obtain ⟨x, y, rfl, k1, k3, h1, h2, h3, h4⟩ := job_own.1 h
  exact job_own.2 ⟨x, y, rfl, hk, k3, h1, h2, h3, h4⟩
theorem job_set2 {w : World} {vs : List Value} {j : Jb} {F : List Nat} {k : Int} (hk : (Lit.int .i64 k).wf = true) (h : jobR.own w vs j F) : jobR.own w (vs.set 2 (.int .i64 k)) (j.1, j.2.1, k, j.2.2.2) F := by
  obtain ⟨x, y, rfl, k1, k3, h1, h2, h3, h4⟩ := job_own.1 h
  exact job_own.2 ⟨x, y, rfl, k1, hk, h1, h2, h3, h4⟩
theorem job_parts {w : World} {us : List Value} {x : Jb} {F : List Nat} (h : jobR.own w us x F) : ∃ oa ol oc ya yl yc F1 F2, us = [.int .i64 x.1, .slice oa ol oc, .int .i64 x.2.2.1, .slice ya yl yc] ∧ (Lit.int .i64 x.1).wf = true ∧ (Lit.int .i64 x.2.2.1).wf = true ∧ opsR.own w [.slice oa ol oc] x.2.1 F1 ∧ intsR.own w [.slice ya yl yc] x.2.2.2 F2 ∧ F = F1 ++ F2 ∧ (F1 ++ F2).Nodup := by
  obtain ⟨x', y, e, k1, k3, h1, h2, h3, h4⟩ := job_own.1 h
  have hx := ops_own.2 ⟨h1, rfl⟩
  have hy := ints_own.2 ⟨h2, rfl⟩
  obtain ⟨oa, ol, oc, e1⟩ := slice_shape hx
  obtain ⟨ya, yl, yc, e2⟩ := slice_shape hy
  subst e1 e2
  rw [h3] at h4
  exact ⟨oa, ol, oc, ya, yl, yc, _, _, e, k1, k3, hx, hy, h3, h4⟩
set_option maxRecDepth 100000 in
set_option maxHeartbeats 4000000 in
theorem markJobS (g n cap : Nat) (l : List Jb) (q : Parts) (k0 : Nat) (w : World) (h : OwnG 118 jobR w (.slice (some ⟨g, 0, none⟩) n cap) l q) (hk1 : 1 ≤ k0) (hk : k0 + cntAll cntJ l ≤ 1099511627776) :
    Calls Try.prog 48 #[.slice (some ⟨g, 0, none⟩) n cap, .int .i64 (k0 : Int)] w fun e w' => e = .returned (.int .i64 ((k0 + cntAll cntJ l : Nat) : Int)) ∧ ∃ q', OwnG 118 jobR w' (.slice (some ⟨g, 0, none⟩) n cap) (markRow mJ cntJ k0 l) q' ∧ blocksOf q' = blocksOf q ∧ lay.Frame (g :: blocksOf q) w w' := by
  have hnl := h.nlen
  subst hnl
  have hlm : l.length ≤ maxLen := by rcases h.shape with ⟨e, _⟩ | ⟨_, _, _, h1, h2⟩; cases e; omega
  unfold maxLen at hlm
  go_enter Try.func48, Try.ntmps48
  go_wp2_with fail
  go_loopw [5, 1] (fun iv kv wr => ∃ (i : Nat) (q' : Parts), i ≤ l.length ∧ iv = .int .i64 (i : Int) ∧ kv = .int .i64 ((k0 + cntTo cntJ l i : Nat) : Int) ∧ OwnG 118 jobR wr (.slice (some ⟨g, 0, none⟩) l.length cap) (mapTo (markF mJ cntJ k0 l) l i) q' ∧ blocksOf q' = blocksOf q ∧ lay.Frame (g :: blocksOf q) w wr) (fun iv _ _ => l.length - (intOf iv).toNat)
  case atStart => exact ⟨0, q, Nat.zero_le _, rfl, by rw [cntTo_zero]; rfl, by rw [mapTo_zero]; exact h, rfl, lay.Frame.refl _ _⟩
  case round =>
    obtain ⟨i, q', hi, rfl, rfl, hO, hq, hFr⟩ := hrel
    by_cases hlt : i < l.length
    · have hii : (i : Int) < (l.length : Int) := by omega
      obtain ⟨L, hL⟩ : ∃ L, mapTo (markF mJ cntJ k0 l) l i = L := ⟨_, rfl⟩
      have HLL : Hid (L.length = l.length) := by show _ = _; rw [← hL, mapTo_length]
      have hLi : i < L.length := by rw [HLL.out]; exact hlt
      have HLat : Hid (L[i] = l[i]) := by show _ = _; have := mapTo_at (markF mJ cntJ k0 l) i hlt; simp only [hL] at this; exact this
      have HSET : Hid (L.set i (markF mJ cntJ k0 l i l[i]) = mapTo (markF mJ cntJ k0 l) l (i + 1)) := by show _ = _; rw [← hL]; exact mapTo_set _ i hlt
      rw [hL] at hO
      have HCS := Hid.mk' (cntTo_succ cntJ l i hlt)
      have hcl := cntTo_le cntJ l (i + 1)
      obtain ⟨K, hK⟩ : ∃ K, k0 + cntTo cntJ l i = K := ⟨_, rfl⟩
      have HMF : Hid (markF mJ cntJ k0 l i l[i] = mJ K l[i]) := by show _ = _; unfold markF; rw [hK]
      rw [HCS.out] at hcl
      have hcj : K + cntJ l[i] ≤ k0 + cntAll cntJ l := by omega
      have HKN : Hid (K + cntJ l[i] = k0 + cntTo cntJ l (i + 1)) := by show _ = _; rw [HCS.out]; omega
      simp only [hK]
      have hK1 : 1 ≤ K := by omega
      clear hL hcl hK
      rw [HMF.out] at HSET
      have HJ : Hid (mJ K l[i] = ((K : Int), marksO (K + 1) l[i].2.1.length, ((K + 1 + 3 * l[i].2.1.length : Nat) : Int), marksZ (K + 2 + 3 * l[i].2.1.length) l[i].2.2.2.length)) := rfl
      have hcn : cntJ l[i] = 2 + 3 * l[i].2.1.length + l[i].2.2.2.length := rfl
      generalize l[i] = x at *
      obtain ⟨tx, ops, st, yes⟩ := x
      simp only [] at HJ hcn
      obtain ⟨tot, htot⟩ : ∃ t, cntAll cntJ l = t := ⟨_, rfl⟩
      rw [htot] at hcj hk
      -- the number
      obtain ⟨us, F, hx, hc, _, _⟩ := hO.open i hLi
      rw [HLat.out] at hx
      obtain ⟨oa, ol, oc, ya, yl, yc, F1, F2, rfl, _⟩ := job_parts hx
      have c0 := hc 0 _ rfl
      have f0 := hO.frozen (i * 4)
      have wK : (Lit.int .i64 (K : Int)).wf = true := WalkArith.wf_i64 (by omega)
      obtain ⟨q1, hO1, hq1, hg1⟩ := hO.cell1 i hLi 0 (by decide) (.int .i64 (K : Int)) ((K : Int), ops, st, yes) (fun vs F hv => by rw [HLat.out] at hv; exact job_set0 wK hv)
      have e4 : i * jobR.size + 0 = i * 4 := rfl
      rw [e4] at hO1 hg1 c0
      have hFr1 := hFr.grown hg1 (fun k e => by cases e; exact .inl (by simp))
      have hL1 : i < (L.set i ((K : Int), ops, st, yes)).length := by simpa using hLi
      obtain ⟨us1, G, hx1, hc1, hG1, bk1⟩ := hO1.open i hL1
      rw [set_at hLi] at hx1
      obtain ⟨oa1, ol1, oc1, ya1, yl1, yc1, G1, G2, rfl, k1a, k3a, hop1, hye1, rfl, hnd1⟩ := job_parts hx1
      have d1 : (wr.setCell ⟨g, i * 4, none⟩ (.int .i64 (K : Int))).cell? ⟨g, i * 4 + 1, none⟩ = some (.slice oa1 ol1 oc1) := hc1 1 _ rfl
      have HMO := Hid.mk' (markOps_R oa1 ol1 oc1 ops G1 (K + 1) _ hop1 (by omega) (by omega))
      have HKI : Hid (((K : Nat) : Int) + 1 = ((K + 1 : Nat) : Int)) := by show _ = _; omega
      have hKb : K + 2 + 3 * ops.length + yes.length ≤ 1099511627776 := by omega
      have hs1 := hg1.size
      have HBK := Hid.mk' bk1
      have HYE := Hid.mk' hye1
      have HGB := Hid.mk' hG1
      clear hO hx hc hO1 hx1 hc1 bk1 hop1 hG1 hg1
      go_wp2_with fail
      rw [HKI.out]
      refine HMO.out.mono ?_
      have hlen1 := (L.set i ((K : Int), ops, st, yes)).length
      rintro e w2 ⟨rfl, hop2, hf2⟩
      have hye2 := intsR.ownFrame HYE.out hf2 (fun k hk hk2 => (nodup_parts hnd1).2.2 k hk2 hk)
      have hO2 := HBK.out w2 ((K : Int), marksO (K + 1) ops.length, st, yes) G1 hf2 (fun k hk => List.mem_append.2 (.inl hk)) (job_mk k1a k3a hop2 hye2 hnd1)
      rw [List.set_set] at hO2
      have hFr2 := hFr1.trans hf2 (fun k hk => .inl (List.mem_cons_of_mem _ (by rw [← hq, ← hq1]; exact HGB.out k (List.mem_append.2 (.inl hk)))))
      -- the state
      have hL2 : i < (L.set i ((K : Int), marksO (K + 1) ops.length, st, yes)).length := by simpa using hLi
      obtain ⟨us2, H, hx2, hc2, _, _⟩ := hO2.open i hL2
      rw [set_at hLi] at hx2
      obtain ⟨oa2, ol2, oc2, ya2, yl2, yc2, _, _, rfl, _⟩ := job_parts hx2
      have c2 := hc2 2 _ rfl
      have f2 := hO2.frozen (i * 4 + 2)
      have wK3 : (Lit.int .i64 ((K + 1 + 3 * ops.length : Nat) : Int)).wf = true := WalkArith.wf_i64 (by omega)
      obtain ⟨q3, hO3, hq3, hg3⟩ := hO2.cell1 i hL2 2 (by decide) (.int .i64 ((K + 1 + 3 * ops.length : Nat) : Int)) ((K : Int), marksO (K + 1) ops.length, ((K + 1 + 3 * ops.length : Nat) : Int), yes) (fun vs F hv => by rw [set_at hLi] at hv; exact job_set2 wK3 hv)
      have e42 : i * jobR.size + 2 = i * 4 + 2 := rfl
      rw [e42] at hO3 hg3 c2
      rw [List.set_set] at hO3
      have hFr3 := hFr2.grown hg3 (fun k e => by cases e; exact .inl (by simp))
      have hL3 : i < (L.set i ((K : Int), marksO (K + 1) ops.length, ((K + 1 + 3 * ops.length : Nat) : Int), yes)).length := by simpa using hLi
      obtain ⟨us3, H3, hx3, hc3, hG3, bk3⟩ := hO3.open i hL3
      rw [set_at hLi] at hx3
      obtain ⟨oa3, ol3, oc3, ya3, yl3, yc3, J1, J2, rfl, k1c, k3c, hop3, hye3, rfl, hnd3⟩ := job_parts hx3
      have d3 : (w2.setCell ⟨g, i * 4 + 2, none⟩ (.int .i64 ((K + 1 + 3 * ops.length : Nat) : Int))).cell? ⟨g, i * 4 + 3, none⟩ = some (.slice ya3 yl3 yc3) := hc3 3 _ rfl
      have HMZ := Hid.mk' (markInts_R ya3 yl3 yc3 yes J2 (K + 2 + 3 * ops.length) _ hye3 (by omega))
      have HBK3 := Hid.mk' bk3
      have HOP3 := Hid.mk' hop3
      have HGB3 := Hid.mk' hG3
      have HKI3 : Hid (((K + 1 + 3 * ops.length : Nat) : Int) + 1 = ((K + 2 + 3 * ops.length : Nat) : Int)) := by show _ = _; omega
      have hKKb : ((K + 1 + 3 * ops.length : Nat) : Int) ≤ 1099511627776 ∧ 0 ≤ ((K + 1 + 3 * ops.length : Nat) : Int) := by omega
      clear HBK HMO hop2 hye2 hO2 hx2 hc2 hO3 hx3 hc3 bk3 hye3 hop3 hG3 hf2 hg3 c0 f0 d1
      generalize ((K + 1 + 3 * ops.length : Nat) : Int) = KK at *
      go_wp2_with fail
      rw [HKI3.out]
      refine HMZ.out.mono ?_
      rintro e w4 ⟨rfl, hye4, hf4⟩
      have hop4 := opsR.ownFrame HOP3.out hf4 (fun k hk hk2 => (nodup_parts hnd3).2.2 k hk hk2)
      have hO4 := HBK3.out w4 ((K : Int), marksO (K + 1) ops.length, KK, marksZ (K + 2 + 3 * ops.length) yes.length) J2 hf4 (fun k hk => List.mem_append.2 (.inr hk)) (job_mk k1c k3c hop4 hye4 hnd3)
      rw [List.set_set] at hO4
      have hFr4 := hFr3.trans hf4 (fun k hk => .inl (List.mem_cons_of_mem _ (by rw [← hq, ← hq1, ← hq3]; exact HGB3.out k (List.mem_append.2 (.inr hk)))))
      have HO4 : Hid (OwnG 118 jobR w4 (.slice (some ⟨g, 0, none⟩) l.length cap) (mapTo (markF mJ cntJ k0 l) l (i + 1)) q3) := by
        show OwnG _ _ _ _ _ _
        rw [← HSET.out, HJ.out]
        exact hO4
      have HQ4 : Hid (blocksOf q3 = blocksOf q) := hq3.trans (hq1.trans hq)
      have HK4 : Hid (K + 2 + 3 * ops.length + yes.length = k0 + cntTo cntJ l (i + 1)) := by show _ = _; rw [← HKN.out, hcn]; omega
      clear hO4 hop4 hye4 hf4 HBK3 HMZ HOP3 c2 f2 d3
      go_wp2_with fail
      go_roundw
      case rel => exact ⟨i + 1, q3, by omega, by go_num, congrArg (Value.int .i64) (by have := HK4.out; omega), HO4.out, HQ4.out, hFr4⟩
      case measure => simp [intOf]; omega
    · have he : i = l.length := by omega
      subst he
      rw [mapTo_all] at hO
      rw [cntTo_all]
      go_wp2_with fail
      go_ret
      exact ⟨rfl, q', hO, hq, hFr⟩
set_option maxRecDepth 100000 in
theorem markJobs_nil (k0 : Nat) (w : World) : Calls Try.prog 48 #[.slice none 0 0, .int .i64 (k0 : Int)] w fun e w' => e = .returned (.int .i64 (k0 : Int)) ∧ w' = w := by
  go_enter Try.func48, Try.ntmps48
  go_wp2
  go_loopw [5, 1] (fun i x wr => i = .int .i64 0 ∧ x = .int .i64 (k0 : Int) ∧ wr = w) (fun _ _ _ => 0)
  case atStart => exact ⟨rfl, rfl, rfl⟩
  case round =>
    obtain ⟨rfl, rfl, rfl⟩ := hrel
    go_wp2
    go_ret
    exact ⟨rfl, rfl⟩
theorem markJobs_R (a : Option Addr) (n c : Nat) (l : List Jb) (F : List Nat) (k0 : Nat) (w : World) (h : jobsR.own w [.slice a n c] l F) (hk1 : 1 ≤ k0) (hk : k0 + cntAll cntJ l ≤ 1099511627776) :
    Calls Try.prog 48 #[.slice a n c, .int .i64 (k0 : Int)] w fun e w' => e = .returned (.int .i64 ((k0 + cntAll cntJ l : Nat) : Int)) ∧ jobsR.own w' [.slice a n c] (markRow mJ cntJ k0 l) F ∧ lay.Frame F w w' := by
  obtain ⟨v, q, e, rfl, hO⟩ := h
  cases e
  rcases hO.shape with ⟨e, rfl, rfl⟩ | ⟨g, cap, e, _⟩
  · cases e
    refine (markJobs_nil k0 w).mono ?_
    rintro e w' ⟨rfl, rfl⟩
    exact ⟨by simp [cntAll], own_nil _ _ _, lay.Frame.refl _ _⟩
  · simp only [Value.slice.injEq] at e
    obtain ⟨rfl, rfl, rfl⟩ := e
    refine (markJobS g l.length c l q k0 w hO hk1 hk).mono ?_
    rintro e w' ⟨rfl, q', hO', hq, hf⟩
    exact ⟨rfl, ⟨_, q', rfl, by rw [hq], hO'⟩, by simpa [Value.ownBlock] using hf⟩
end Go.Proofs.Yteammdkipnfmnaa.cos

namespace Go.Proofs.Yteammdkipnfmnaa.cos
open Go Go.RowKit Go.Proofs.Yteammdkipnfmnaa.base Go.Proofs.Yteammdkipnfmnaa.pairs Go.Proofs.Yteammdkipnfmnaa.ords Go.Proofs.Yteammdkipnfmnaa.lay Go.Proofs.Yteammdkipnfmnaa.wds
set_option linter.unusedVariables false
set_option linter.unusedSimpArgs false

theorem mod3 (K : Nat) : (((K + 1 : Nat) : Int) % 3 == 0) = decide ((K + 1) % 3 = 0) := by
  by_cases h : (K + 1) % 3 = 0
  · rw [decide_eq_true h]
    exact beq_iff_eq.2 (by omega)
  · rw [decide_eq_false h]
    exact beq_eq_false_iff_ne.2 (by omega)
theorem ch_set0 {w : World} {vs : List Value} {x : Ch} {F : List Nat} {k : Int} (hk : (Lit.int .i64 k).wf = true) (h : chR.own w vs x F) : chR.own w (vs.set 0 (.int .i64 k)) (k, x.2) F := by
  obtain ⟨rfl, _, rfl⟩ := flat_ch.own.1 h
  exact flat_ch.own.2 ⟨rfl, ⟨hk, trivial⟩, rfl⟩
theorem ch_set1 {w : World} {vs : List Value} {x : Ch} {F : List Nat} {y : Bool} (h : chR.own w vs x F) : chR.own w (vs.set 1 (.bool y)) (x.1, y) F := by
  obtain ⟨rfl, h2, rfl⟩ := flat_ch.own.1 h
  exact flat_ch.own.2 ⟨rfl, ⟨h2.1, trivial⟩, rfl⟩
set_option maxRecDepth 100000 in
set_option maxHeartbeats 4000000 in
theorem markChoiceS (g n cap : Nat) (l : List Ch) (q : Parts) (k0 : Nat) (w : World) (h : OwnG 121 chR w (.slice (some ⟨g, 0, none⟩) n cap) l q) (hk : k0 + 2 * l.length ≤ 1099511627776) :
    Calls Try.prog 49 #[.slice (some ⟨g, 0, none⟩) n cap, .int .i64 (k0 : Int)] w fun e w' => e = .returned (.int .i64 ((k0 + 2 * l.length : Nat) : Int)) ∧ ∃ q', OwnG 121 chR w' (.slice (some ⟨g, 0, none⟩) n cap) (mLog k0 l) q' ∧ lay.Frame [g] w w' := by
  have hnl := h.nlen
  subst hnl
  have hlm : l.length ≤ maxLen := by rcases h.shape with ⟨e, _⟩ | ⟨_, _, _, h1, h2⟩; cases e; omega
  unfold maxLen at hlm
  have HCT : Hid (∀ i, i ≤ l.length → cntTo (fun _ => 2) l i = 2 * i) := fun i hi => by
    unfold cntTo
    have : ((l.take i).map fun _ => 2) = List.replicate i 2 := by
      refine List.ext_getElem (by simp; omega) fun j h1 h2 => by simp
    rw [this]; simp; omega
  go_enter Try.func49, Try.ntmps49
  go_wp2_with fail
  go_loopw [5, 1] (fun iv kv wr => ∃ (i : Nat) (q' : Parts), i ≤ l.length ∧ iv = .int .i64 (i : Int) ∧ kv = .int .i64 ((k0 + 2 * i : Nat) : Int) ∧ OwnG 121 chR wr (.slice (some ⟨g, 0, none⟩) l.length cap) (mapTo (markF mCh (fun _ => 2) k0 l) l i) q' ∧ lay.Frame [g] w wr) (fun iv _ _ => l.length - (intOf iv).toNat)
  case atStart => exact ⟨0, q, Nat.zero_le _, rfl, rfl, by rw [mapTo_zero]; exact h, lay.Frame.refl _ _⟩
  case round =>
    obtain ⟨i, q', hi, rfl, rfl, hO, hFr⟩ := hrel
    by_cases hlt : i < l.length
    · have hii : (i : Int) < (l.length : Int) := by omega
      obtain ⟨L, hL⟩ : ∃ L, mapTo (markF mCh (fun _ => 2) k0 l) l i = L := ⟨_, rfl⟩
      have hLi : i < L.length := by rw [← hL, mapTo_length]; exact hlt
      have HSET : Hid (L.set i (markF mCh (fun _ => 2) k0 l i l[i]) = mapTo (markF mCh (fun _ => 2) k0 l) l (i + 1)) := by show _ = _; rw [← hL]; exact mapTo_set _ i hlt
      rw [hL] at hO
      obtain ⟨K, hK⟩ : ∃ K, k0 + 2 * i = K := ⟨_, rfl⟩
      have HMF : Hid (markF mCh (fun _ => 2) k0 l i l[i] = ((K : Int), decide ((K + 1) % 3 = 0))) := by show _ = _; unfold markF mCh; rw [HCT.out i hi, hK]
      rw [HMF.out] at HSET
      have hKb : K + 2 ≤ 1099511627776 := by omega
      have HKN : Hid (K + 2 = k0 + 2 * (i + 1)) := by show _ = _; omega
      simp only [hK]
      clear hL HMF hK
      obtain ⟨us, F, hx, hc, _, _⟩ := hO.open i hLi
      obtain ⟨rfl, _⟩ := flat_ch.own.1 hx
      have c0 : wr.cell? ⟨g, i * 2, none⟩ = some (.int .i64 L[i].1) := hc 0 _ rfl
      have f0 := hO.frozen (i * 2)
      have wK : (Lit.int .i64 (K : Int)).wf = true := WalkArith.wf_i64 (by omega)
      obtain ⟨q1, hO1, _, hg1⟩ := hO.cell1 i hLi 0 (by decide) (.int .i64 (K : Int)) ((K : Int), L[i].2) (fun vs F hv => ch_set0 wK hv)
      have e4 : i * chR.size + 0 = i * 2 := rfl
      rw [e4] at hO1 hg1
      have hFr1 := hFr.grown hg1 (fun k e => by cases e; exact .inl (by simp))
      have hL1 : i < (L.set i ((K : Int), L[i].2)).length := by simpa using hLi
      obtain ⟨us1, G, hx1, hc1, _, _⟩ := hO1.open i hL1
      obtain ⟨rfl, _⟩ := flat_ch.own.1 hx1
      have c1 : (wr.setCell ⟨g, i * 2, none⟩ (.int .i64 (K : Int))).cell? ⟨g, i * 2 + 1, none⟩ = some (.bool ((L.set i ((K : Int), L[i].2))[i]).2) := hc1 1 _ rfl
      have f1 := hO1.frozen (i * 2 + 1)
      obtain ⟨q2, hO2, _, hg2⟩ := hO1.cell1 i hL1 1 (by decide) (.bool (decide ((K + 1) % 3 = 0))) ((K : Int), decide ((K + 1) % 3 = 0)) (fun vs F hv => by rw [set_at hLi] at hv; exact ch_set1 hv)
      have e42 : i * chR.size + 1 = i * 2 + 1 := rfl
      rw [e42] at hO2 hg2
      rw [List.set_set, HSET.out] at hO2
      have hFr2 := hFr1.grown hg2 (fun k e => by cases e; exact .inl (by simp))
      have HO2 := Hid.mk' hO2
      have HFR := Hid.mk' hFr2
      have HM := Hid.mk' (mod3 K)
      have HKI : Hid (((K : Nat) : Int) + 1 = ((K + 1 : Nat) : Int)) := by show _ = _; omega
      generalize L[i].1 = z0 at *
      generalize ((L.set i ((K : Int), L[i].2))[i]).2 = z1 at *
      clear hO hO1 hO2 hx hx1 hc hc1 hFr2 hFr1 hg1 hg2
      generalize hMM : decide ((K + 1) % 3 = 0) = mm at *
      have hmm : ((((K : Nat) : Int) + 1) % 3 == 0) = mm := by rw [HKI.out, HM.out]
      clear hMM HM
      cases mm
      all_goals
        go_wp2_with fail
        go_roundw
        case rel => exact ⟨i + 1, q2, by omega, by go_num, congrArg (Value.int .i64) (by have := HKN.out; omega), HO2.out, HFR.out⟩
        case measure => simp [intOf]; omega
    · have he : i = l.length := by omega
      subst he
      rw [mapTo_all] at hO
      go_wp2_with fail
      go_ret
      exact ⟨rfl, q', hO, hFr⟩
set_option maxRecDepth 100000 in
theorem markChs_nil (k0 : Nat) (w : World) : Calls Try.prog 49 #[.slice none 0 0, .int .i64 (k0 : Int)] w fun e w' => e = .returned (.int .i64 (k0 : Int)) ∧ w' = w := by
  go_enter Try.func49, Try.ntmps49
  go_wp2
  go_loopw [5, 1] (fun i x wr => i = .int .i64 0 ∧ x = .int .i64 (k0 : Int) ∧ wr = w) (fun _ _ _ => 0)
  case atStart => exact ⟨rfl, rfl, rfl⟩
  case round =>
    obtain ⟨rfl, rfl, rfl⟩ := hrel
    go_wp2
    go_ret
    exact ⟨rfl, rfl⟩
theorem markChs_R (a : Option Addr) (n c : Nat) (l : List Ch) (F : List Nat) (k0 : Nat) (w : World) (h : logR.own w [.slice a n c] l F) (hk : k0 + 2 * l.length ≤ 1099511627776) :
    Calls Try.prog 49 #[.slice a n c, .int .i64 (k0 : Int)] w fun e w' => e = .returned (.int .i64 ((k0 + 2 * l.length : Nat) : Int)) ∧ logR.own w' [.slice a n c] (mLog k0 l) F ∧ lay.Frame F w w' := by
  obtain ⟨⟨q, hO⟩, rfl⟩ := logs_own.1 h
  rcases hO.shape with ⟨e, rfl, rfl⟩ | ⟨g, cap, e, _⟩
  · cases e
    refine (markChs_nil k0 w).mono ?_
    rintro e w' ⟨rfl, rfl⟩
    exact ⟨by simp, own_nil _ _ _, lay.Frame.refl _ _⟩
  · simp only [Value.slice.injEq] at e
    obtain ⟨rfl, rfl, rfl⟩ := e
    refine (markChoiceS g l.length c l q k0 w hO hk).mono ?_
    rintro e w' ⟨rfl, q', hO', hf⟩
    exact ⟨rfl, logs_own.2 ⟨⟨q', hO'⟩, rfl⟩, by simpa [Value.ownBlock] using hf⟩
theorem cntC_eq (c : Co) : cntC c = cntAll cntJ c.2.2.2.1 + 2 * c.2.2.2.2.1.length := rfl
set_option maxRecDepth 100000 in
set_option maxHeartbeats 2000000 in
theorem markCoord (ja : Option Addr) (jn jc : Nat) (la : Option Addr) (ln lc : Nat) (c : Co) (F : List Nat) (k0 : Nat) (w : World) (h : coordR.own w [.int .i64 c.1, .int .i64 c.2.1, .int .i64 c.2.2.1, .slice ja jn jc, .slice la ln lc, .int .i64 c.2.2.2.2.2] c F) (hk1 : 1 ≤ k0) (hk : k0 + cntC c ≤ 1099511627776) :
    Calls Try.prog 26 #[coV c.1 c.2.1 c.2.2.1 c.2.2.2.2.2 ja jn jc la ln lc, .int .i64 (k0 : Int)] w fun e w' => e = .returned (.int .i64 ((k0 + cntC c : Nat) : Int)) ∧ coordR.own w' [.int .i64 c.1, .int .i64 c.2.1, .int .i64 c.2.2.1, .slice ja jn jc, .slice la ln lc, .int .i64 c.2.2.2.2.2] (mCo k0 c) F ∧ lay.Frame F w w' := by
  rw [cntC_eq] at hk ⊢
  obtain ⟨x, y, F1, F2, e, hwf, hj, hl, rfl, hnd⟩ := coord_own.1 h
  simp only [List.cons.injEq, and_true, true_and] at e
  obtain ⟨rfl, rfl⟩ := e
  obtain ⟨W, hW⟩ : ∃ W, w.alloc (.cells #[.int .i64 c.1, .int .i64 c.2.1, .int .i64 c.2.2.1, .slice ja jn jc, .slice la ln lc, .int .i64 c.2.2.2.2.2] 37) = W := ⟨_, rfl⟩
  have hb : Below w.heap.size w W := by rw [← hW]; exact below_make
  have hA : BoxIn w.heap.size 37 [] [.int .i64 c.1, .int .i64 c.2.1, .int .i64 c.2.2.1, .slice ja jn jc, .slice la ln lc, .int .i64 c.2.2.2.2.2] [] W := by rw [← hW]; exact boxIn_new w _ _
  have hFlt := coordR.ownLt h
  have HM1 := Hid.mk' (markJobs_R ja jn jc c.2.2.2.1 F1 k0 W (jobsR.ownBelow hj hb) hk1 (by omega))
  have HM2 := Hid.mk' (fun wx (hx : logR.own wx [.slice la ln lc] c.2.2.2.2.1 F2) => markChs_R la ln lc c.2.2.2.2.1 F2 (k0 + cntAll cntJ c.2.2.2.1) wx hx (by omega))
  have hlW := logR.ownBelow hl hb
  have HW := Hid.mk' hW
  obtain ⟨a0, a1, a2, a3, a4, a5⟩ := cells6 hA
  rw [← hW] at a0 a1 a2 a3 a4 a5
  clear hW h hj hl
  go_enter Try.func26, Try.ntmps26
  go_wp2_with fail
  rw [HW.out]
  refine HM1.out.mono ?_
  rintro e w1 ⟨rfl, hj1, hf1⟩
  have hA1 := hA.frame hf1 (fun e => by have := hFlt _ (List.mem_append.2 (.inl e)); omega)
  have hl1 := logR.ownFrame hlW hf1 (fun k hk hk2 => (nodup_parts hnd).2.2 k hk2 hk)
  have HM3 := Hid.mk' (HM2.out w1 hl1)
  clear a0 a1 a2 a3 a4 a5 HM1 HM2
  obtain ⟨a0, a1, a2, a3, a4, a5⟩ := cells6 hA1
  go_wp2_with fail
  refine HM3.out.mono ?_
  rintro e w2 ⟨rfl, hl2, hf2⟩
  have hj2 := jobsR.ownFrame hj1 hf2 (fun k hk hk2 => (nodup_parts hnd).2.2 k hk hk2)
  have hFr : lay.Frame (F1 ++ F2) w w2 := ((lay.Frame.of_below hb).trans (hf1.mono (G' := F1 ++ F2) fun k hk => List.mem_append.2 (.inl hk)) (Fresh.refl _ _)).trans (hf2.mono (G' := F1 ++ F2) fun k hk => List.mem_append.2 (.inr hk)) (Fresh.refl _ _)
  clear a0 a1 a2 a3 a4 a5
  go_wp2_with fail
  go_ret
  exact ⟨congrArg (fun z => Ending.returned (.int .i64 z)) (by omega), (coord_own (c := mCo k0 c)).2 ⟨_, _, F1, F2, rfl, ⟨hwf.n, hwf.life, hwf.next, hwf.sure⟩, hj2, hl2, rfl, hnd⟩, hFr⟩
end Go.Proofs.Yteammdkipnfmnaa.cos

namespace Go.Proofs.Yteammdkipnfmnaa.cos
open Go Go.RowKit Go.Proofs.Yteammdkipnfmnaa.base Go.Proofs.Yteammdkipnfmnaa.pairs Go.Proofs.Yteammdkipnfmnaa.ords Go.Proofs.Yteammdkipnfmnaa.lay Go.Proofs.Yteammdkipnfmnaa.wds
set_option linter.unusedVariables false
set_option linter.unusedSimpArgs false

theorem word_at {w : World} {b off len : Nat} {l : List Wd} (h : SlG wordR w (some ⟨b, off, none⟩) len l) (i : Nat) (hi : i < l.length) :
    ∃ oa ol oc, w.cell? ⟨b, off + i * 5, none⟩ = some (.int .i64 l[i].1) ∧ w.cell? ⟨b, off + i * 5 + 1, none⟩ = some (.int .i64 l[i].2.1) ∧ w.cell? ⟨b, off + i * 5 + 2, none⟩ = some (.int .i64 l[i].2.2.1) ∧ w.cell? ⟨b, off + i * 5 + 3, none⟩ = some (.slice oa ol oc) ∧ w.cell? ⟨b, off + i * 5 + 4, none⟩ = some (.bool l[i].2.2.2.2) ∧ SlO w oa ol l[i].2.2.2.1 ∧ ol ≤ oc := by
  obtain ⟨u0, u1, u2, u3, u4, hs, c0, c1, c2, c3, c4⟩ := slg_at5 rfl h i hi
  obtain ⟨oa, ol, oc, e, _, _, _, h4, h5⟩ := word_see.1 hs
  simp only [List.cons.injEq, and_true] at e
  obtain ⟨rfl, rfl, rfl, rfl, rfl⟩ := e
  exact ⟨oa, ol, oc, c0, c1, c2, c3, c4, h4, h5⟩
set_option maxRecDepth 100000 in
set_option maxHeartbeats 1000000 in
theorem eqWord1T (k s t : Int) (y : Bool) (pa qa : Option Addr) (pl pc ql qc : Nat) (l : List Od) (w : World) (hx : SlO w pa pl l) (hy : SlO w qa ql l) :
    Calls Try.prog 46 #[.agg #[.int .i64 k, .int .i64 s, .int .i64 t, .slice pa pl pc, .bool y], .agg #[.int .i64 k, .int .i64 s, .int .i64 t, .slice qa ql qc, .bool y]] w fun e w' => e = .returned (.bool true) ∧ Below w.heap.size w w' := by
  obtain ⟨W, hW⟩ : ∃ W, (w.alloc (.cells #[.int .i64 k, .int .i64 s, .int .i64 t, .slice pa pl pc, .bool y] 92)).alloc (.cells #[.int .i64 k, .int .i64 s, .int .i64 t, .slice qa ql qc, .bool y] 92) = W := ⟨_, rfl⟩
  have hB : Below w.heap.size w W := by rw [← hW]; exact below_two _ _ _
  have vx : BoxIn w.heap.size 92 [] [.int .i64 k, .int .i64 s, .int .i64 t, .slice pa pl pc, .bool y] [] W := by rw [← hW]; exact (boxIn_new w _ _).below below_make
  have vy : BoxIn (w.heap.size + 1) 92 [] [.int .i64 k, .int .i64 s, .int .i64 t, .slice qa ql qc, .bool y] [] W := by
    rw [← hW]
    have := boxIn_new (w.alloc (.cells #[.int .i64 k, .int .i64 s, .int .i64 t, .slice pa pl pc, .bool y] 92)) [.int .i64 k, .int .i64 s, .int .i64 t, .slice qa ql qc, .bool y] 92
    rwa [show (w.alloc (.cells #[.int .i64 k, .int .i64 s, .int .i64 t, .slice pa pl pc, .bool y] 92)).heap.size = w.heap.size + 1 by simp] at this
  have HE := Hid.mk' (eqO pa qa pl pc ql qc l l W (hx.below hB) (hy.below hB) rfl)
  have HW := Hid.mk' hW
  clear hW
  cases y
  all_goals
    have hn1 : (k == k) = true := by simp
    have hn2 : (s == s) = true := by simp
    have hn3 : (t == t) = true := by simp
    go_enter Try.func46, Try.ntmps46
    go_wp2_with fail
    rw [HW.out]
    refine HE.out.mono ?_
    rintro e w1 ⟨rfl, hb1⟩
    have hB1 := hB.trans (hb1.mono hB.size)
    have x4 := (vx.below hb1).cell 4 _ rfl
    have y4 := (vy.below hb1).cell 4 _ rfl
    rw [show ([] : List Value).length + 4 = 4 from rfl] at x4 y4
    clear HE HW hb1 vx vy
    go_wp2_with fail
    go_ret
    exact ⟨rfl, hB1⟩
set_option maxRecDepth 100000 in
set_option maxHeartbeats 2000000 in
theorem eqWordsT (a a2 : Option Addr) (len cap cap2 : Nat) (l : List Wd) (w : World) (h : SlG wordR w a len l) (h2 : SlG wordR w a2 len l) :
    Calls Try.prog 24 #[.slice a len cap, .slice a2 len cap2] w fun e w' => e = .returned (.bool true) ∧ Below w.heap.size w w' := by
  have hl := h.1
  have hm := h.2.1
  unfold maxLen at hm
  have hb : ((len : Int) == (len : Int)) = true := by simp
  go_enter Try.func24, Try.ntmps24
  go_wp2_with fail
  go_loopw [5] (fun i wr => ∃ k : Nat, k ≤ len ∧ i = .int .i64 k ∧ Below w.heap.size w wr) (fun i _ => len - (intOf i).toNat)
  case atStart => exact ⟨0, Nat.zero_le _, rfl, Below.refl _ _⟩
  case round =>
    obtain ⟨k, hk, rfl, hB⟩ := hrel
    by_cases hlt : k < len
    · have hltl : k < l.length := by omega
      obtain ⟨b, off, e⟩ := slg_some h (by omega)
      obtain ⟨b2, off2, e2⟩ := slg_some h2 (by omega)
      subst e e2
      have hki : (k : Int) < (len : Int) := by omega
      obtain ⟨oa, ol, oc, c0, c1, c2, c3, c4, hO1, _⟩ := word_at (h.below hB) k hltl
      obtain ⟨ob, bl, bc, d0, d1, d2, d3, d4, hO2, _⟩ := word_at (h2.below hB) k hltl
      have o0 := last.On.cell (B := wr.heap.size) c0 (World.block_lt_of_cell? _ _ c0)
      have o1 := last.On.cell (B := wr.heap.size) c1 (World.block_lt_of_cell? _ _ c1)
      have o2 := last.On.cell (B := wr.heap.size) c2 (World.block_lt_of_cell? _ _ c2)
      have o3 := last.On.cell (B := wr.heap.size) c3 (World.block_lt_of_cell? _ _ c3)
      have o4 := last.On.cell (B := wr.heap.size) c4 (World.block_lt_of_cell? _ _ c4)
      have p0 := last.On.cell (B := wr.heap.size) d0 (World.block_lt_of_cell? _ _ d0)
      have p1 := last.On.cell (B := wr.heap.size) d1 (World.block_lt_of_cell? _ _ d1)
      have p2 := last.On.cell (B := wr.heap.size) d2 (World.block_lt_of_cell? _ _ d2)
      have p3 := last.On.cell (B := wr.heap.size) d3 (World.block_lt_of_cell? _ _ d3)
      have p4 := last.On.cell (B := wr.heap.size) d4 (World.block_lt_of_cell? _ _ d4)
      have hinh := last.On.inh wr.heap.size wr
      have hcall : ∀ x : last.On wr.heap.size wr, Calls Try.prog 46 #[.agg #[.int .i64 l[k].1, .int .i64 l[k].2.1, .int .i64 l[k].2.2.1, .slice oa ol oc, .bool l[k].2.2.2.2], .agg #[.int .i64 l[k].1, .int .i64 l[k].2.1, .int .i64 l[k].2.2.1, .slice ob bl bc, .bool l[k].2.2.2.2]] x.w fun e w' => e = .returned (.bool true) ∧ ∃ y : last.On wr.heap.size wr, w' = y.w := fun x => last.Calls.on x (Nat.le_refl _) (eqWord1T _ _ _ _ oa ob ol oc bl bc l[k].2.2.2.1 x.w (hO1.below x.2) (hO2.below x.2))
      clear h h2 hO1 hO2
      generalize l[k] = p at *
      go_wp2_with fail
      refine last.wp_region_on wr.heap.size (by kernel_rfl) (by kernel_rfl) ?_
      repeat (go_big_quiet_step ((go_at_call 46; exact hcall _)))
      refine wpQuiet_nil ?_
      intro w5 hw5
      obtain ⟨x5, hw5⟩ := hw5
      subst hw5
      have hB5 : Below w.heap.size w x5.w := hB.trans (x5.2.mono hB.size)
      go_wp2_with fail
      go_roundw
      case rel => exact ⟨k + 1, by omega, by go_num, hB5⟩
      case measure => simp [intOf]; omega
    · have hnk : ¬ (k : Int) < (len : Int) := by omega
      go_wp2_with fail
      go_ret
      exact ⟨rfl, hB⟩
end Go.Proofs.Yteammdkipnfmnaa.cos

namespace Go.Proofs.Yteammdkipnfmnaa.cos
open Go Go.RowKit Go.Proofs.Yteammdkipnfmnaa.base Go.Proofs.Yteammdkipnfmnaa.pairs Go.Proofs.Yteammdkipnfmnaa.ords Go.Proofs.Yteammdkipnfmnaa.lay Go.Proofs.Yteammdkipnfmnaa.wds
set_option linter.unusedVariables false
set_option linter.unusedSimpArgs false

def cntW (x : Wd) : Nat := 4 + 3 * x.2.2.2.1.length
def mW (k : Nat) (x : Wd) : Wd := ((k : Int), ((k + 1 : Nat) : Int), ((k + 2 : Nat) : Int), marksO (k + 3) x.2.2.2.1.length, decide ((k + 3 + 3 * x.2.2.2.1.length) % 3 = 0))
theorem mod3W (m : Nat) : (((m : Nat) : Int) % 3 == 0) = decide (m % 3 = 0) := by
  by_cases h : m % 3 = 0
  · rw [decide_eq_true h]; simp; omega
  · rw [decide_eq_false h]; simp; omega
end Go.Proofs.Yteammdkipnfmnaa.cos

namespace Go.Proofs.Yteammdkipnfmnaa.cos
open Go Go.RowKit Go.Proofs.Yteammdkipnfmnaa.base Go.Proofs.Yteammdkipnfmnaa.pairs Go.Proofs.Yteammdkipnfmnaa.ords Go.Proofs.Yteammdkipnfmnaa.lay Go.Proofs.Yteammdkipnfmnaa.wds
set_option linter.unusedVariables false
set_option linter.unusedSimpArgs false

section
variable {w : World} {vs : List Value} {x : Wd} {F : List Nat} {k : Int}
theorem word_set0 (hk : (Lit.int .i64 k).wf = true) (h : wordR.own w vs x F) : wordR.own w (vs.set 0 (.int .i64 k)) (k, x.2.1, x.2.2.1, x.2.2.2.1, x.2.2.2.2) F := by
  obtain ⟨v, rfl, k1, k2, k3, h4⟩ := word_own.1 h
  exact word_own.2 ⟨v, rfl, hk, k2, k3, h4⟩
theorem word_set1 (hk : (Lit.int .i64 k).wf = true) (h : wordR.own w vs x F) : wordR.own w (vs.set 1 (.int .i64 k)) (x.1, k, x.2.2.1, x.2.2.2.1, x.2.2.2.2) F := by
  obtain ⟨v, rfl, k1, k2, k3, h4⟩ := word_own.1 h
  exact word_own.2 ⟨v, rfl, k1, hk, k3, h4⟩
theorem word_set2 (hk : (Lit.int .i64 k).wf = true) (h : wordR.own w vs x F) : wordR.own w (vs.set 2 (.int .i64 k)) (x.1, x.2.1, k, x.2.2.2.1, x.2.2.2.2) F := by
  obtain ⟨v, rfl, k1, k2, k3, h4⟩ := word_own.1 h
  exact word_own.2 ⟨v, rfl, k1, k2, hk, h4⟩
theorem word_set4 {y : Bool} (h : wordR.own w vs x F) : wordR.own w (vs.set 4 (.bool y)) (x.1, x.2.1, x.2.2.1, x.2.2.2.1, y) F := by
  obtain ⟨v, rfl, k1, k2, k3, h4⟩ := word_own.1 h
  exact word_own.2 ⟨v, rfl, k1, k2, k3, h4⟩
theorem word_parts (h : wordR.own w vs x F) : ∃ oa ol oc, vs = [.int .i64 x.1, .int .i64 x.2.1, .int .i64 x.2.2.1, .slice oa ol oc, .bool x.2.2.2.2] ∧ (Lit.int .i64 x.1).wf = true ∧ (Lit.int .i64 x.2.1).wf = true ∧ (Lit.int .i64 x.2.2.1).wf = true ∧ opsR.own w [.slice oa ol oc] x.2.2.2.1 F := by
  obtain ⟨v, e, k1, k2, k3, h4⟩ := word_own.1 h
  obtain ⟨oa, ol, oc, e1⟩ := slice_shape h4
  subst e1
  exact ⟨oa, ol, oc, e, k1, k2, k3, h4⟩
end
set_option maxRecDepth 100000 in
set_option maxHeartbeats 4000000 in
theorem markWordS (g n cap : Nat) (l : List Wd) (q : Parts) (k0 : Nat) (w : World) (h : OwnG 92 wordR w (.slice (some ⟨g, 0, none⟩) n cap) l q) (hk1 : 1 ≤ k0) (hk : k0 + cntAll cntW l ≤ 1099511627776) :
    Calls Try.prog 28 #[.slice (some ⟨g, 0, none⟩) n cap, .int .i64 (k0 : Int)] w fun e w' => e = .returned (.int .i64 ((k0 + cntAll cntW l : Nat) : Int)) ∧ ∃ q', OwnG 92 wordR w' (.slice (some ⟨g, 0, none⟩) n cap) (markRow mW cntW k0 l) q' ∧ blocksOf q' = blocksOf q ∧ lay.Frame (g :: blocksOf q) w w' := by
  have hnl := h.nlen
  subst hnl
  have hlm : l.length ≤ maxLen := by rcases h.shape with ⟨e, _⟩ | ⟨_, _, _, h1, h2⟩; cases e; omega
  unfold maxLen at hlm
  go_enter Try.func28, Try.ntmps28
  go_wp2_with fail
  go_loopw [5, 1] (fun iv kv wr => ∃ (i : Nat) (q' : Parts), i ≤ l.length ∧ iv = .int .i64 (i : Int) ∧ kv = .int .i64 ((k0 + cntTo cntW l i : Nat) : Int) ∧ OwnG 92 wordR wr (.slice (some ⟨g, 0, none⟩) l.length cap) (mapTo (markF mW cntW k0 l) l i) q' ∧ blocksOf q' = blocksOf q ∧ lay.Frame (g :: blocksOf q) w wr) (fun iv _ _ => l.length - (intOf iv).toNat)
  case atStart => exact ⟨0, q, Nat.zero_le _, rfl, by rw [cntTo_zero]; rfl, by rw [mapTo_zero]; exact h, rfl, lay.Frame.refl _ _⟩
  case round =>
    obtain ⟨i, q', hi, rfl, rfl, hO, hq, hFr⟩ := hrel
    by_cases hlt : i < l.length
    · have hii : (i : Int) < (l.length : Int) := by omega
      obtain ⟨L, hL⟩ : ∃ L, mapTo (markF mW cntW k0 l) l i = L := ⟨_, rfl⟩
      have HLL : Hid (L.length = l.length) := by show _ = _; rw [← hL, mapTo_length]
      have hLi : i < L.length := by rw [HLL.out]; exact hlt
      have HLat : Hid (L[i] = l[i]) := by show _ = _; have := mapTo_at (markF mW cntW k0 l) i hlt; simp only [hL] at this; exact this
      have HSET : Hid (L.set i (markF mW cntW k0 l i l[i]) = mapTo (markF mW cntW k0 l) l (i + 1)) := by show _ = _; rw [← hL]; exact mapTo_set _ i hlt
      rw [hL] at hO
      have HCS := Hid.mk' (cntTo_succ cntW l i hlt)
      have hcl := cntTo_le cntW l (i + 1)
      obtain ⟨K, hK⟩ : ∃ K, k0 + cntTo cntW l i = K := ⟨_, rfl⟩
      have HMF : Hid (markF mW cntW k0 l i l[i] = mW K l[i]) := by show _ = _; unfold markF; rw [hK]
      rw [HCS.out] at hcl
      have hcj : K + cntW l[i] ≤ k0 + cntAll cntW l := by omega
      have HKN : Hid (K + cntW l[i] = k0 + cntTo cntW l (i + 1)) := by show _ = _; rw [HCS.out]; omega
      simp only [hK]
      have hK1 : 1 ≤ K := by omega
      clear hL hcl hK
      rw [HMF.out] at HSET
      have HJ : Hid (mW K l[i] = ((K : Int), ((K + 1 : Nat) : Int), ((K + 2 : Nat) : Int), marksO (K + 3) l[i].2.2.2.1.length, decide ((K + 3 + 3 * l[i].2.2.2.1.length) % 3 = 0))) := rfl
      have hcn : cntW l[i] = 4 + 3 * l[i].2.2.2.1.length := rfl
      generalize l[i] = x at *
      obtain ⟨kd, s, tx, ops, y⟩ := x
      simp only [] at HJ hcn
      obtain ⟨tot, htot⟩ : ∃ t, cntAll cntW l = t := ⟨_, rfl⟩
      rw [htot] at hcj hk
      have hKb : K + 4 + 3 * ops.length ≤ 1099511627776 := by omega
      have e1 : ((K + 1 : Nat) : Int) = (K : Int) + 1 := by omega
      have e2 : ((K + 2 : Nat) : Int) = (K : Int) + 1 + 1 := by omega
      rw [e1, e2] at HJ
      clear e1 e2
      have HKI : Hid (((K : Nat) : Int) + 1 + 1 + 1 = ((K + 3 : Nat) : Int)) := by show _ = _; omega
      have w0 : (Lit.int .i64 (K : Int)).wf = true := WalkArith.wf_i64 (by omega)
      have w1 : (Lit.int .i64 ((K : Int) + 1)).wf = true := WalkArith.wf_i64 (by omega)
      have w2 : (Lit.int .i64 ((K : Int) + 1 + 1)).wf = true := WalkArith.wf_i64 (by omega)
      -- three numbers
      obtain ⟨us, F, hx, hc, _, _⟩ := hO.open i hLi
      rw [HLat.out] at hx
      obtain ⟨oa, ol, oc, rfl, _⟩ := word_parts hx
      have c0 := hc 0 _ rfl
      have f0 := hO.frozen (i * 5)
      obtain ⟨q1, hO1, hq1, hg1⟩ := hO.cell1 i hLi 0 (by decide) (.int .i64 (K : Int)) ((K : Int), s, tx, ops, y) (fun vs F hv => by rw [HLat.out] at hv; exact word_set0 w0 hv)
      rw [show i * wordR.size + 0 = i * 5 from rfl] at hO1 hg1 c0
      have hFr1 := hFr.grown hg1 (fun k e => by cases e; exact .inl (by simp))
      have hL1 : i < (L.set i ((K : Int), s, tx, ops, y)).length := by simpa using hLi
      obtain ⟨us1, F1, hx1, hc1, _, _⟩ := hO1.open i hL1
      rw [set_at hLi] at hx1
      obtain ⟨oa1, ol1, oc1, rfl, _⟩ := word_parts hx1
      have c1 := hc1 1 _ rfl
      have f1 := hO1.frozen (i * 5 + 1)
      obtain ⟨q2, hO2, hq2, hg2⟩ := hO1.cell1 i hL1 1 (by decide) (.int .i64 ((K : Int) + 1)) ((K : Int), (K : Int) + 1, tx, ops, y) (fun vs F hv => by rw [set_at hLi] at hv; exact word_set1 w1 hv)
      rw [show i * wordR.size + 1 = i * 5 + 1 from rfl] at hO2 hg2 c1
      rw [List.set_set] at hO2
      have hFr2 := hFr1.grown hg2 (fun k e => by cases e; exact .inl (by simp))
      have hL2 : i < (L.set i ((K : Int), (K : Int) + 1, tx, ops, y)).length := by simpa using hLi
      obtain ⟨us2, F2, hx2, hc2, _, _⟩ := hO2.open i hL2
      rw [set_at hLi] at hx2
      obtain ⟨oa2, ol2, oc2, rfl, _⟩ := word_parts hx2
      have c2 := hc2 2 _ rfl
      have f2 := hO2.frozen (i * 5 + 2)
      obtain ⟨q3, hO3, hq3, hg3⟩ := hO2.cell1 i hL2 2 (by decide) (.int .i64 ((K : Int) + 1 + 1)) ((K : Int), (K : Int) + 1, (K : Int) + 1 + 1, ops, y) (fun vs F hv => by rw [set_at hLi] at hv; exact word_set2 w2 hv)
      rw [show i * wordR.size + 2 = i * 5 + 2 from rfl] at hO3 hg3 c2
      rw [List.set_set] at hO3
      have hFr3 := hFr2.grown hg3 (fun k e => by cases e; exact .inl (by simp))
      have hL3 : i < (L.set i ((K : Int), (K : Int) + 1, (K : Int) + 1 + 1, ops, y)).length := by simpa using hLi
      obtain ⟨us3, G, hx3, hc3, hG3, bk3⟩ := hO3.open i hL3
      rw [set_at hLi] at hx3
      obtain ⟨oa3, ol3, oc3, rfl, k1a, k2a, k3a, hop3⟩ := word_parts hx3
      have d3 := hc3 3 _ rfl
      rw [show i * wordR.size + 3 = i * 5 + 3 from rfl] at d3
      have HMO := Hid.mk' (markOps_R oa3 ol3 oc3 ops G (K + 3) _ hop3 (by omega) (by omega))
      have HBK := Hid.mk' bk3
      have HGB := Hid.mk' hG3
      clear hO hx hc hO1 hx1 hc1 hO2 hx2 hc2 hO3 hx3 hc3 bk3 hop3 hG3 hg1 hg2 hg3 hFr1 hFr2
      go_wp2_with fail
      rw [HKI.out]
      refine HMO.out.mono ?_
      rintro e w5 ⟨rfl, hop5, hf5⟩
      have hO5 := HBK.out w5 ((K : Int), (K : Int) + 1, (K : Int) + 1 + 1, marksO (K + 3) ops.length, y) G hf5 (fun k hk => hk) (word_own.2 ⟨_, rfl, k1a, k2a, k3a, hop5⟩)
      rw [List.set_set] at hO5
      have hFr5 := hFr3.trans hf5 (fun k hk => .inl (List.mem_cons_of_mem _ (by rw [← hq, ← hq1, ← hq2, ← hq3]; exact HGB.out k hk)))
      have hL5 : i < (L.set i ((K : Int), (K : Int) + 1, (K : Int) + 1 + 1, marksO (K + 3) ops.length, y)).length := by simpa using hLi
      obtain ⟨us5, F5, hx5, hc5, _, _⟩ := hO5.open i hL5
      rw [set_at hLi] at hx5
      obtain ⟨oa5, ol5, oc5, rfl, _⟩ := word_parts hx5
      have c4 := hc5 4 _ rfl
      rw [show i * wordR.size + 4 = i * 5 + 4 from rfl] at c4
      have f4 := hO5.frozen (i * 5 + 4)
      obtain ⟨q6, hO6, hq6, hg6⟩ := hO5.cell1 i hL5 4 (by decide) (.bool (decide ((K + 3 + 3 * ops.length) % 3 = 0))) ((K : Int), (K : Int) + 1, (K : Int) + 1 + 1, marksO (K + 3) ops.length, decide ((K + 3 + 3 * ops.length) % 3 = 0)) (fun vs F hv => by rw [set_at hLi] at hv; exact word_set4 hv)
      rw [show i * wordR.size + 4 = i * 5 + 4 from rfl] at hO6 hg6
      rw [List.set_set, ← HJ.out, HSET.out] at hO6
      have hFr6 := hFr5.grown hg6 (fun k e => by cases e; exact .inl (by simp))
      have HO6 := Hid.mk' hO6
      have HFR := Hid.mk' hFr6
      have HQ6 : Hid (blocksOf q6 = blocksOf q) := hq6.trans (hq3.trans (hq2.trans (hq1.trans hq)))
      have HK6 : Hid (((K + 3 + 3 * ops.length : Nat) : Int) + 1 = ((k0 + cntTo cntW l (i + 1) : Nat) : Int)) := by show _ = _; rw [← HKN.out, hcn]; omega
      have HM := Hid.mk' (mod3W (K + 3 + 3 * ops.length))
      have hKKb : ((K + 3 + 3 * ops.length : Nat) : Int) ≤ 1099511627776 ∧ 0 ≤ ((K + 3 + 3 * ops.length : Nat) : Int) := by omega
      clear hO5 hO6 hx5 hc5 hop5 hf5 hFr3 hFr5 hFr6 hg6 HBK HMO c0 c1 c2 d3 f0 f1 f2
      generalize hMM : decide ((K + 3 + 3 * ops.length) % 3 = 0) = mm at *
      have hmm : (((K + 3 + 3 * ops.length : Nat) : Int) % 3 == 0) = mm := HM.out
      clear HM hMM
      generalize ((K + 3 + 3 * ops.length : Nat) : Int) = KK at *
      cases mm
      all_goals
        go_wp2_with fail
        go_roundw
        case rel => exact ⟨i + 1, q6, by omega, by go_num, congrArg (Value.int .i64) HK6.out, HO6.out, HQ6.out, HFR.out⟩
        case measure => simp [intOf]; omega
    · have he : i = l.length := by omega
      subst he
      rw [mapTo_all] at hO
      rw [cntTo_all]
      go_wp2_with fail
      go_ret
      exact ⟨rfl, q', hO, hq, hFr⟩
end Go.Proofs.Yteammdkipnfmnaa.cos
