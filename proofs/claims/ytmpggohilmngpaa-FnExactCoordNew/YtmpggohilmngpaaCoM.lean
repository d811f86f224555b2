/- The laws' marks on those who decide. -/
import Derived.Test.YtmpggohilmngpaaCoEx
import Derived.Test.YtmpggohilmngpaaGenMark
import Derived.Test.YtmpggohilmngpaaHelpN
namespace Go.Proofs.Ytmpggohilmngpaa.cos
open Go Go.RowKit Go.Proofs.Ytmpggohilmngpaa.base Go.Proofs.Ytmpggohilmngpaa.pairs Go.Proofs.Ytmpggohilmngpaa.ords Go.Proofs.Ytmpggohilmngpaa.lay Go.Proofs.Ytmpggohilmngpaa.wds
set_option linter.unusedVariables false
set_option linter.unusedSimpArgs false

set_option maxRecDepth 100000 in
theorem markOps_nil (k0 : Nat) (w : World) : Calls Try.prog 19 #[.slice none 0 0, .int .i64 (k0 : Int)] w fun e w' => e = .returned (.int .i64 (k0 : Int)) ∧ w' = w := by
  go_enter Try.func19, Try.ntmps19
  go_wp2
  go_loopw [5, 1] (fun i x wr => i = .int .i64 0 ∧ x = .int .i64 (k0 : Int) ∧ wr = w) (fun _ _ _ => 0)
  case atStart => exact ⟨rfl, rfl, rfl⟩
  case round =>
    obtain ⟨rfl, rfl, rfl⟩ := hrel
    go_wp2
    go_ret
    exact ⟨rfl, rfl⟩
theorem markOps_R (a : Option Addr) (n c : Nat) (l : List Od) (F : List Nat) (k0 : Nat) (w : World) (h : opsR.own w [.slice a n c] l F) (hk1 : 1 ≤ k0) (hk : k0 + 3 * l.length ≤ 1099511627776) :
    Calls Try.prog 19 #[.slice a n c, .int .i64 (k0 : Int)] w fun e w' => e = .returned (.int .i64 ((k0 + 3 * l.length : Nat) : Int)) ∧ opsR.own w' [.slice a n c] (marksO k0 l.length) F ∧ lay.Frame F w w' := by
  obtain ⟨hV, rfl⟩ := ops_own.1 h
  rcases hV.shape with ⟨e, rfl⟩ | ⟨g, cap, e, hO⟩
  · cases e
    refine (markOps_nil k0 w).mono ?_
    rintro e w' ⟨rfl, rfl⟩
    exact ⟨by simp, ops_own.2 ⟨ownV_nil _ _, rfl⟩, lay.Frame.refl _ _⟩
  · simp only [Value.slice.injEq] at e
    obtain ⟨rfl, rfl, rfl⟩ := e
    refine (markOpS g l.length _ k0 0 l w hO hk1 hk).mono ?_
    rintro e w' ⟨rfl, hO', hg⟩
    refine ⟨rfl, ops_own.2 ⟨⟨hO'.2.1, ?_⟩, rfl⟩, lay.Frame.of_grown hg (fun k e => by cases e; exact .inl (by simp [Value.ownBlock]))⟩
    have := hO'.2.2
    rwa [marksO_length]
theorem heldOps_R (a : Option Addr) (n c m : Nat) (k0 : Nat) (w : World) (h : SlO w a n (marksO k0 m)) (hk1 : 1 ≤ k0) (hk : k0 + 3 * m ≤ 1099511627776) :
    Calls Try.prog 21 #[.slice a n c, .int .i64 (k0 : Int)] w fun e w' => e = .returned (.int .i64 ((k0 + 3 * m : Nat) : Int)) ∧ Below w.heap.size w w' := by
  have : n = m := by have := h.1; rw [marksO_length] at this; omega
  subst this
  exact heldOpS a n c k0 w h hk1 hk
set_option maxRecDepth 100000 in
theorem markInts_nil (k0 : Nat) (w : World) : Calls Try.prog 20 #[.slice none 0 0, .int .i64 (k0 : Int)] w fun e w' => e = .returned (.int .i64 (k0 : Int)) ∧ w' = w := by
  go_enter Try.func20, Try.ntmps20
  go_wp2
  go_loopw [5, 1] (fun i x wr => i = .int .i64 0 ∧ x = .int .i64 (k0 : Int) ∧ wr = w) (fun _ _ _ => 0)
  case atStart => exact ⟨rfl, rfl, rfl⟩
  case round =>
    obtain ⟨rfl, rfl, rfl⟩ := hrel
    go_wp2
    go_ret
    exact ⟨rfl, rfl⟩
theorem marksZ_wf (k0 n : Nat) (hk : k0 + n ≤ 1099511627776) : ∀ z ∈ marksZ k0 n, (Lit.int .i64 z).wf = true := by
  intro z hz
  obtain ⟨j, hj, rfl⟩ := List.mem_map.1 hz
  have := List.mem_range.1 hj
  exact WalkArith.wf_i64 (by omega)
theorem markInts_R (a : Option Addr) (n c : Nat) (l : List Int) (F : List Nat) (k0 : Nat) (w : World) (h : intsR.own w [.slice a n c] l F) (hk : k0 + l.length ≤ 1099511627776) :
    Calls Try.prog 20 #[.slice a n c, .int .i64 (k0 : Int)] w fun e w' => e = .returned (.int .i64 ((k0 + l.length : Nat) : Int)) ∧ intsR.own w' [.slice a n c] (marksZ k0 l.length) F ∧ lay.Frame F w w' := by
  obtain ⟨hV, rfl⟩ := ints_own.1 h
  rcases hV.2.2 with ⟨e, h0⟩ | ⟨g, cap, cur, e, _⟩
  · cases e
    have : l = [] := List.eq_nil_of_length_eq_zero h0
    subst this
    refine (markInts_nil k0 w).mono ?_
    rintro e w' ⟨rfl, rfl⟩
    exact ⟨by simp, ints_own.2 ⟨⟨fun _ h => absurd h List.not_mem_nil, World.ownsRow_nil _ _ _ _⟩, rfl⟩, lay.Frame.refl _ _⟩
  · simp only [Value.slice.injEq] at e
    obtain ⟨rfl, rfl, rfl⟩ := e
    refine (markIntS g l.length _ k0 0 l w ⟨rfl, hV.2⟩ hk).mono ?_
    rintro e w' ⟨rfl, hO', hg⟩
    refine ⟨rfl, ints_own.2 ⟨⟨marksZ_wf k0 l.length hk, ?_⟩, rfl⟩, lay.Frame.of_grown hg (fun k e => by cases e; exact .inl (by simp [Value.ownBlock]))⟩
    have := hO'.2
    rwa [marksZ_length]
theorem heldInts_R (a : Option Addr) (n c m : Nat) (k0 : Nat) (w : World) (h : SlZ w a n (marksZ k0 m)) (hk : k0 + m ≤ 1099511627776) :
    Calls Try.prog 22 #[.slice a n c, .int .i64 (k0 : Int)] w fun e w' => e = .returned (.int .i64 ((k0 + m : Nat) : Int)) ∧ Below w.heap.size w w' := by
  have : n = m := by have := h.1; rw [marksZ_length] at this; omega
  subst this
  refine (heldIntS a n c k0 w h hk).mono ?_
  rintro e w' ⟨rfl, rfl⟩
  exact ⟨rfl, Below.refl _ _⟩
/-- a job that is marked -/
def mJ (k : Nat) (j : Jb) : Jb := ((k : Int), marksO (k + 1) j.2.1.length, ((k + 1 + 3 * j.2.1.length : Nat) : Int), marksZ (k + 2 + 3 * j.2.1.length) j.2.2.2.length)
def mCh (k : Nat) (c : Ch) : Ch := ((k : Int), decide ((k + 1) % 3 = 0))
def mLog (k : Nat) (l : List Ch) : List Ch := markRow mCh (fun _ => 2) k l
def mCo (k : Nat) (c : Co) : Co := (c.1, c.2.1, c.2.2.1, markRow mJ cntJ k c.2.2.2.1, mLog (k + cntAll cntJ c.2.2.2.1) c.2.2.2.2.1, c.2.2.2.2.2)
theorem job_set0 {w : World} {vs : List Value} {j : Jb} {F : List Nat} {k : Int} (hk : (Lit.int .i64 k).wf = true) (h : jobR.own w vs j F) : jobR.own w (vs.set 0 (.int .i64 k)) (k, j.2.1, j.2.2.1, j.2.2.2) F := by
  obtain ⟨x, y, rfl, k1, k3, h1, h2, h3, h4⟩ := job_own.1 h
  exact job_own.2 ⟨x, y, rfl, hk, k3, h1, h2, h3, h4⟩
theorem job_set2 {w : World} {vs : List Value} {j : Jb} {F : List Nat} {k : Int} (hk : (Lit.int .i64 k).wf = true) (h : jobR.own w vs j F) : jobR.own w (vs.set 2 (.int .i64 k)) (j.1, j.2.1, k, j.2.2.2) F := by
  obtain ⟨x, y, rfl, k1, k3, h1, h2, h3, h4⟩ := job_own.1 h
  exact job_own.2 ⟨x, y, rfl, k1, hk, h1, h2, h3, h4⟩
theorem job_parts {w : World} {us : List Value} {x : Jb} {F : List Nat} (h : jobR.own w us x F) : ∃ oa ol oc ya yl yc F1 F2, us = [.int .i64 x.1, .slice oa ol oc, .int .i64 x.2.2.1, .slice ya yl yc] ∧ (Lit.int .i64 x.1).wf = true ∧ (Lit.int .i64 x.2.2.1).wf = true ∧ opsR.own w [.slice oa ol oc] x.2.1 F1 ∧ intsR.own w [.slice ya yl yc] x.2.2.2 F2 ∧ F = F1 ++ F2 ∧ (F1 ++ F2).Nodup := by
  obtain ⟨x', y, e, k1, k3, h1, h2, h3, h4⟩ := job_own.1 h
  have hx := ops_own.2 ⟨h1, rfl⟩
  have hy := ints_own.2 ⟨h2, rfl⟩
  obtain ⟨oa, ol, oc, e1⟩ := slice_shape hx
  obtain ⟨ya, yl, yc, e2⟩ := slice_shape hy
  subst e1 e2
  rw [h3] at h4
  exact ⟨oa, ol, oc, ya, yl, yc, _, _, e, k1, k3, hx, hy, h3, h4⟩
set_option maxRecDepth 100000 in
set_option maxHeartbeats 4000000 in
theorem markJobS (g n cap : Nat) (l : List Jb) (q : Parts) (k0 : Nat) (w : World) (h : OwnG 39 jobR w (.slice (some ⟨g, 0, none⟩) n cap) l q) (hk1 : 1 ≤ k0) (hk : k0 + cntAll cntJ l ≤ 1099511627776) :
    Calls Try.prog 13 #[.slice (some ⟨g, 0, none⟩) n cap, .int .i64 (k0 : Int)] w fun e w' => e = .returned (.int .i64 ((k0 + cntAll cntJ l : Nat) : Int)) ∧ ∃ q', OwnG 39 jobR w' (.slice (some ⟨g, 0, none⟩) n cap) (markRow mJ cntJ k0 l) q' ∧ blocksOf q' = blocksOf q ∧ lay.Frame (g :: blocksOf q) w w' := by
  have hnl := h.nlen
  subst hnl
  have hlm : l.length ≤ maxLen := by rcases h.shape with ⟨e, _⟩ | ⟨_, _, _, h1, h2⟩; cases e; omega
  unfold maxLen at hlm
  go_enter Try.func13, Try.ntmps13
  go_wp2_with fail
  go_loopw [5, 1] (fun iv kv wr => ∃ (i : Nat) (q' : Parts), i ≤ l.length ∧ iv = .int .i64 (i : Int) ∧ kv = .int .i64 ((k0 + cntTo cntJ l i : Nat) : Int) ∧ OwnG 39 jobR wr (.slice (some ⟨g, 0, none⟩) l.length cap) (mapTo (markF mJ cntJ k0 l) l i) q' ∧ blocksOf q' = blocksOf q ∧ lay.Frame (g :: blocksOf q) w wr) (fun iv _ _ => l.length - (intOf iv).toNat)
  case atStart => exact ⟨0, q, Nat.zero_le _, rfl, by rw [cntTo_zero]; rfl, by rw [mapTo_zero]; exact h, rfl, lay.Frame.refl _ _⟩
  case round =>
    obtain ⟨i, q', hi, rfl, rfl, hO, hq, hFr⟩ := hrel
    by_cases hlt : i < l.length
    · have hii : (i : Int) < (l.length : Int) := by omega
      obtain ⟨L, hL⟩ : ∃ L, mapTo (markF mJ cntJ k0 l) l i = L := ⟨_, rfl⟩
      have HLL : Hid (L.length = l.length) := by show _ = _; rw [← hL, mapTo_length]
      have hLi : i < L.length := by rw [HLL.out]; exact hlt
      have HLat : Hid (L[i] = l[i]) := by show _ = _; have := mapTo_at (markF mJ cntJ k0 l) i hlt; simp only [hL] at this; exact this
      have HSET : Hid (L.set i (markF mJ cntJ k0 l i l[i]) = mapTo (markF mJ cntJ k0 l) l (i + 1)) := by show _ = _; rw [← hL]; exact mapTo_set _ i hlt
      rw [hL] at hO
      have HCS := Hid.mk' (cntTo_succ cntJ l i hlt)
      have hcl := cntTo_le cntJ l (i + 1)
      obtain ⟨K, hK⟩ : ∃ K, k0 + cntTo cntJ l i = K := ⟨_, rfl⟩
      have HMF : Hid (markF mJ cntJ k0 l i l[i] = mJ K l[i]) := by show _ = _; unfold markF; rw [hK]
      rw [HCS.out] at hcl
      have hcj : K + cntJ l[i] ≤ k0 + cntAll cntJ l := by omega
      have HKN : Hid (K + cntJ l[i] = k0 + cntTo cntJ l (i + 1)) := by show _ = _; rw [HCS.out]; omega
      simp only [hK]
      have hK1 : 1 ≤ K := by omega
      clear hL hcl hK
      rw [HMF.out] at HSET
      have HJ : Hid (mJ K l[i] = ((K : Int), marksO (K + 1) l[i].2.1.length, ((K + 1 + 3 * l[i].2.1.length : Nat) : Int), marksZ (K + 2 + 3 * l[i].2.1.length) l[i].2.2.2.length)) := rfl
      have hcn : cntJ l[i] = 2 + 3 * l[i].2.1.length + l[i].2.2.2.length := rfl
      generalize l[i] = x at *
      obtain ⟨tx, ops, st, yes⟩ := x
      simp only [] at HJ hcn
      obtain ⟨tot, htot⟩ : ∃ t, cntAll cntJ l = t := ⟨_, rfl⟩
      rw [htot] at hcj hk
      -- the number
      obtain ⟨us, F, hx, hc, _, _⟩ := hO.open i hLi
      rw [HLat.out] at hx
      obtain ⟨oa, ol, oc, ya, yl, yc, F1, F2, rfl, _⟩ := job_parts hx
      have c0 := hc 0 _ rfl
      have f0 := hO.frozen (i * 4)
      have wK : (Lit.int .i64 (K : Int)).wf = true := WalkArith.wf_i64 (by omega)
      obtain ⟨q1, hO1, hq1, hg1⟩ := hO.cell1 i hLi 0 (by decide) (.int .i64 (K : Int)) ((K : Int), ops, st, yes) (fun vs F hv => by rw [HLat.out] at hv; exact job_set0 wK hv)
      have e4 : i * jobR.size + 0 = i * 4 := rfl
      rw [e4] at hO1 hg1 c0
      have hFr1 := hFr.grown hg1 (fun k e => by cases e; exact .inl (by simp))
      have hL1 : i < (L.set i ((K : Int), ops, st, yes)).length := by simpa using hLi
      obtain ⟨us1, G, hx1, hc1, hG1, bk1⟩ := hO1.open i hL1
      rw [set_at hLi] at hx1
      obtain ⟨oa1, ol1, oc1, ya1, yl1, yc1, G1, G2, rfl, k1a, k3a, hop1, hye1, rfl, hnd1⟩ := job_parts hx1
      have d1 : (wr.setCell ⟨g, i * 4, none⟩ (.int .i64 (K : Int))).cell? ⟨g, i * 4 + 1, none⟩ = some (.slice oa1 ol1 oc1) := hc1 1 _ rfl
      have HMO := Hid.mk' (markOps_R oa1 ol1 oc1 ops G1 (K + 1) _ hop1 (by omega) (by omega))
      have HKI : Hid (((K : Nat) : Int) + 1 = ((K + 1 : Nat) : Int)) := by show _ = _; omega
      have hKb : K + 2 + 3 * ops.length + yes.length ≤ 1099511627776 := by omega
      have hs1 := hg1.size
      have HBK := Hid.mk' bk1
      have HYE := Hid.mk' hye1
      have HGB := Hid.mk' hG1
      clear hO hx hc hO1 hx1 hc1 bk1 hop1 hG1 hg1
      go_wp2_with fail
      rw [HKI.out]
      refine HMO.out.mono ?_
      have hlen1 := (L.set i ((K : Int), ops, st, yes)).length
      rintro e w2 ⟨rfl, hop2, hf2⟩
      have hye2 := intsR.ownFrame HYE.out hf2 (fun k hk hk2 => (nodup_parts hnd1).2.2 k hk2 hk)
      have hO2 := HBK.out w2 ((K : Int), marksO (K + 1) ops.length, st, yes) G1 hf2 (fun k hk => List.mem_append.2 (.inl hk)) (job_mk k1a k3a hop2 hye2 hnd1)
      rw [List.set_set] at hO2
      have hFr2 := hFr1.trans hf2 (fun k hk => .inl (List.mem_cons_of_mem _ (by rw [← hq, ← hq1]; exact HGB.out k (List.mem_append.2 (.inl hk)))))
      -- the state
      have hL2 : i < (L.set i ((K : Int), marksO (K + 1) ops.length, st, yes)).length := by simpa using hLi
      obtain ⟨us2, H, hx2, hc2, _, _⟩ := hO2.open i hL2
      rw [set_at hLi] at hx2
      obtain ⟨oa2, ol2, oc2, ya2, yl2, yc2, _, _, rfl, _⟩ := job_parts hx2
      have c2 := hc2 2 _ rfl
      have f2 := hO2.frozen (i * 4 + 2)
      have wK3 : (Lit.int .i64 ((K + 1 + 3 * ops.length : Nat) : Int)).wf = true := WalkArith.wf_i64 (by omega)
      obtain ⟨q3, hO3, hq3, hg3⟩ := hO2.cell1 i hL2 2 (by decide) (.int .i64 ((K + 1 + 3 * ops.length : Nat) : Int)) ((K : Int), marksO (K + 1) ops.length, ((K + 1 + 3 * ops.length : Nat) : Int), yes) (fun vs F hv => by rw [set_at hLi] at hv; exact job_set2 wK3 hv)
      have e42 : i * jobR.size + 2 = i * 4 + 2 := rfl
      rw [e42] at hO3 hg3 c2
      rw [List.set_set] at hO3
      have hFr3 := hFr2.grown hg3 (fun k e => by cases e; exact .inl (by simp))
      have hL3 : i < (L.set i ((K : Int), marksO (K + 1) ops.length, ((K + 1 + 3 * ops.length : Nat) : Int), yes)).length := by simpa using hLi
      obtain ⟨us3, H3, hx3, hc3, hG3, bk3⟩ := hO3.open i hL3
      rw [set_at hLi] at hx3
      obtain ⟨oa3, ol3, oc3, ya3, yl3, yc3, J1, J2, rfl, k1c, k3c, hop3, hye3, rfl, hnd3⟩ := job_parts hx3
      have d3 : (w2.setCell ⟨g, i * 4 + 2, none⟩ (.int .i64 ((K + 1 + 3 * ops.length : Nat) : Int))).cell? ⟨g, i * 4 + 3, none⟩ = some (.slice ya3 yl3 yc3) := hc3 3 _ rfl
      have HMZ := Hid.mk' (markInts_R ya3 yl3 yc3 yes J2 (K + 2 + 3 * ops.length) _ hye3 (by omega))
      have HBK3 := Hid.mk' bk3
      have HOP3 := Hid.mk' hop3
      have HGB3 := Hid.mk' hG3
      have HKI3 : Hid (((K + 1 + 3 * ops.length : Nat) : Int) + 1 = ((K + 2 + 3 * ops.length : Nat) : Int)) := by show _ = _; omega
      have hKKb : ((K + 1 + 3 * ops.length : Nat) : Int) ≤ 1099511627776 ∧ 0 ≤ ((K + 1 + 3 * ops.length : Nat) : Int) := by omega
      clear HBK HMO hop2 hye2 hO2 hx2 hc2 hO3 hx3 hc3 bk3 hye3 hop3 hG3 hf2 hg3 c0 f0 d1
      generalize ((K + 1 + 3 * ops.length : Nat) : Int) = KK at *
      go_wp2_with fail
      rw [HKI3.out]
      refine HMZ.out.mono ?_
      rintro e w4 ⟨rfl, hye4, hf4⟩
      have hop4 := opsR.ownFrame HOP3.out hf4 (fun k hk hk2 => (nodup_parts hnd3).2.2 k hk hk2)
      have hO4 := HBK3.out w4 ((K : Int), marksO (K + 1) ops.length, KK, marksZ (K + 2 + 3 * ops.length) yes.length) J2 hf4 (fun k hk => List.mem_append.2 (.inr hk)) (job_mk k1c k3c hop4 hye4 hnd3)
      rw [List.set_set] at hO4
      have hFr4 := hFr3.trans hf4 (fun k hk => .inl (List.mem_cons_of_mem _ (by rw [← hq, ← hq1, ← hq3]; exact HGB3.out k (List.mem_append.2 (.inr hk)))))
      have HO4 : Hid (OwnG 39 jobR w4 (.slice (some ⟨g, 0, none⟩) l.length cap) (mapTo (markF mJ cntJ k0 l) l (i + 1)) q3) := by
        show OwnG _ _ _ _ _ _
        rw [← HSET.out, HJ.out]
        exact hO4
      have HQ4 : Hid (blocksOf q3 = blocksOf q) := hq3.trans (hq1.trans hq)
      have HK4 : Hid (K + 2 + 3 * ops.length + yes.length = k0 + cntTo cntJ l (i + 1)) := by show _ = _; rw [← HKN.out, hcn]; omega
      clear hO4 hop4 hye4 hf4 HBK3 HMZ HOP3 c2 f2 d3
      go_wp2_with fail
      go_roundw
      case rel => exact ⟨i + 1, q3, by omega, by go_num, congrArg (Value.int .i64) (by have := HK4.out; omega), HO4.out, HQ4.out, hFr4⟩
      case measure => simp [intOf]; omega
    · have he : i = l.length := by omega
      subst he
      rw [mapTo_all] at hO
      rw [cntTo_all]
      go_wp2_with fail
      go_ret
      exact ⟨rfl, q', hO, hq, hFr⟩
set_option maxRecDepth 100000 in
theorem markJobs_nil (k0 : Nat) (w : World) : Calls Try.prog 13 #[.slice none 0 0, .int .i64 (k0 : Int)] w fun e w' => e = .returned (.int .i64 (k0 : Int)) ∧ w' = w := by
  go_enter Try.func13, Try.ntmps13
  go_wp2
  go_loopw [5, 1] (fun i x wr => i = .int .i64 0 ∧ x = .int .i64 (k0 : Int) ∧ wr = w) (fun _ _ _ => 0)
  case atStart => exact ⟨rfl, rfl, rfl⟩
  case round =>
    obtain ⟨rfl, rfl, rfl⟩ := hrel
    go_wp2
    go_ret
    exact ⟨rfl, rfl⟩
theorem markJobs_R (a : Option Addr) (n c : Nat) (l : List Jb) (F : List Nat) (k0 : Nat) (w : World) (h : jobsR.own w [.slice a n c] l F) (hk1 : 1 ≤ k0) (hk : k0 + cntAll cntJ l ≤ 1099511627776) :
    Calls Try.prog 13 #[.slice a n c, .int .i64 (k0 : Int)] w fun e w' => e = .returned (.int .i64 ((k0 + cntAll cntJ l : Nat) : Int)) ∧ jobsR.own w' [.slice a n c] (markRow mJ cntJ k0 l) F ∧ lay.Frame F w w' := by
  obtain ⟨v, q, e, rfl, hO⟩ := h
  cases e
  rcases hO.shape with ⟨e, rfl, rfl⟩ | ⟨g, cap, e, _⟩
  · cases e
    refine (markJobs_nil k0 w).mono ?_
    rintro e w' ⟨rfl, rfl⟩
    exact ⟨by simp [cntAll], own_nil _ _ _, lay.Frame.refl _ _⟩
  · simp only [Value.slice.injEq] at e
    obtain ⟨rfl, rfl, rfl⟩ := e
    refine (markJobS g l.length c l q k0 w hO hk1 hk).mono ?_
    rintro e w' ⟨rfl, q', hO', hq, hf⟩
    exact ⟨rfl, ⟨_, q', rfl, by rw [hq], hO'⟩, by simpa [Value.ownBlock] using hf⟩
end Go.Proofs.Ytmpggohilmngpaa.cos
