/- The laws' marks on those who decide. The laws' marks on those who decide: whether they are held; choices; the whole. -/
import Derived.Test.YtdeaiefhegjalaaGreatBund12au
import Derived.Test.YtdeaiefhegjalaaGreatBund12bc
import Derived.Test.YtdeaiefhegjalaaGreatBund12ar
namespace Go.Proofs.YtdeaiefhegjalaaGreat.cos
open Go Go.RowKit Go.Proofs.YtdeaiefhegjalaaGreat.base Go.Proofs.YtdeaiefhegjalaaGreat.pairs Go.Proofs.YtdeaiefhegjalaaGreat.ords Go.Proofs.YtdeaiefhegjalaaGreat.lay Go.Proofs.YtdeaiefhegjalaaGreat.wds
set_option linter.unusedVariables false
set_option linter.unusedSimpArgs false

set_option maxRecDepth 100000 in
theorem markOps_nil (k0 : Nat) (w : World) : Calls Tryz.prog 90 #[.slice none 0 0, .int .i64 (k0 : Int)] w fun e w' => e = .returned (.int .i64 (k0 : Int)) ∧ w' = w := by
  go_enter Tryz.func90, Tryz.ntmps90
  go_wp2
  go_loopw [5, 1] (fun i x wr => i = .int .i64 0 ∧ x = .int .i64 (k0 : Int) ∧ wr = w) (fun _ _ _ => 0)
  case atStart => exact ⟨rfl, rfl, rfl⟩
  case round =>
    obtain ⟨rfl, rfl, rfl⟩ := hrel
    go_wp2
    go_ret
    exact ⟨rfl, rfl⟩
theorem markOps_R (a : Option Addr) (n c : Nat) (l : List Od) (F : List Nat) (k0 : Nat) (w : World) (h : opsR.own w [.slice a n c] l F) (hk1 : 1 ≤ k0) (hk : k0 + 3 * l.length ≤ 1099511627776) :
    Calls Tryz.prog 90 #[.slice a n c, .int .i64 (k0 : Int)] w fun e w' => e = .returned (.int .i64 ((k0 + 3 * l.length : Nat) : Int)) ∧ opsR.own w' [.slice a n c] (marksO k0 l.length) F ∧ lay.Frame F w w' := by
  obtain ⟨hV, rfl⟩ := ops_own.1 h
  rcases hV.shape with ⟨e, rfl⟩ | ⟨g, cap, e, hO⟩
  · cases e
    refine (markOps_nil k0 w).mono ?_
    rintro e w' ⟨rfl, rfl⟩
    exact ⟨by simp, ops_own.2 ⟨ownV_nil _ _, rfl⟩, lay.Frame.refl _ _⟩
  · simp only [Value.slice.injEq] at e
    obtain ⟨rfl, rfl, rfl⟩ := e
    refine (markOpS g l.length _ k0 0 l w hO hk1 hk).mono ?_
    rintro e w' ⟨rfl, hO', hg⟩
    refine ⟨rfl, ops_own.2 ⟨⟨hO'.2.1, ?_⟩, rfl⟩, lay.Frame.of_grown hg (fun k e => by cases e; exact .inl (by simp [Value.ownBlock]))⟩
    have := hO'.2.2
    rwa [marksO_length]
theorem heldOps_R (a : Option Addr) (n c m : Nat) (k0 : Nat) (w : World) (h : SlO w a n (marksO k0 m)) (hk1 : 1 ≤ k0) (hk : k0 + 3 * m ≤ 1099511627776) :
    Calls Tryz.prog 92 #[.slice a n c, .int .i64 (k0 : Int)] w fun e w' => e = .returned (.int .i64 ((k0 + 3 * m : Nat) : Int)) ∧ Below w.heap.size w w' := by
  have : n = m := by have := h.1; rw [marksO_length] at this; omega
  subst this
  exact heldOpS a n c k0 w h hk1 hk
set_option maxRecDepth 100000 in
theorem markInts_nil (k0 : Nat) (w : World) : Calls Tryz.prog 91 #[.slice none 0 0, .int .i64 (k0 : Int)] w fun e w' => e = .returned (.int .i64 (k0 : Int)) ∧ w' = w := by
  go_enter Tryz.func91, Tryz.ntmps91
  go_wp2
  go_loopw [5, 1] (fun i x wr => i = .int .i64 0 ∧ x = .int .i64 (k0 : Int) ∧ wr = w) (fun _ _ _ => 0)
  case atStart => exact ⟨rfl, rfl, rfl⟩
  case round =>
    obtain ⟨rfl, rfl, rfl⟩ := hrel
    go_wp2
    go_ret
    exact ⟨rfl, rfl⟩
theorem marksZ_wf (k0 n : Nat) (hk : k0 + n ≤ 1099511627776) : ∀ z ∈ marksZ k0 n, (Lit.int .i64 z).wf = true := by
  intro z hz
  obtain ⟨j, hj, rfl⟩ := List.mem_map.1 hz
  have := List.mem_range.1 hj
  exact WalkArith.wf_i64 (by omega)
theorem markInts_R (a : Option Addr) (n c : Nat) (l : List Int) (F : List Nat) (k0 : Nat) (w : World) (h : intsR.own w [.slice a n c] l F) (hk : k0 + l.length ≤ 1099511627776) :
    Calls Tryz.prog 91 #[.slice a n c, .int .i64 (k0 : Int)] w fun e w' => e = .returned (.int .i64 ((k0 + l.length : Nat) : Int)) ∧ intsR.own w' [.slice a n c] (marksZ k0 l.length) F ∧ lay.Frame F w w' := by
  obtain ⟨hV, rfl⟩ := ints_own.1 h
  rcases hV.2.2 with ⟨e, h0⟩ | ⟨g, cap, cur, e, _⟩
  · cases e
    have : l = [] := List.eq_nil_of_length_eq_zero h0
    subst this
    refine (markInts_nil k0 w).mono ?_
    rintro e w' ⟨rfl, rfl⟩
    exact ⟨by simp, ints_own.2 ⟨⟨fun _ h => absurd h List.not_mem_nil, World.ownsRow_nil _ _ _ _⟩, rfl⟩, lay.Frame.refl _ _⟩
  · simp only [Value.slice.injEq] at e
    obtain ⟨rfl, rfl, rfl⟩ := e
    refine (markIntS g l.length _ k0 0 l w ⟨rfl, hV.2⟩ hk).mono ?_
    rintro e w' ⟨rfl, hO', hg⟩
    refine ⟨rfl, ints_own.2 ⟨⟨marksZ_wf k0 l.length hk, ?_⟩, rfl⟩, lay.Frame.of_grown hg (fun k e => by cases e; exact .inl (by simp [Value.ownBlock]))⟩
    have := hO'.2
    rwa [marksZ_length]
theorem heldInts_R (a : Option Addr) (n c m : Nat) (k0 : Nat) (w : World) (h : SlZ w a n (marksZ k0 m)) (hk : k0 + m ≤ 1099511627776) :
    Calls Tryz.prog 93 #[.slice a n c, .int .i64 (k0 : Int)] w fun e w' => e = .returned (.int .i64 ((k0 + m : Nat) : Int)) ∧ Below w.heap.size w w' := by
  have : n = m := by have := h.1; rw [marksZ_length] at this; omega
  subst this
  refine (heldIntS a n c k0 w h hk).mono ?_
  rintro e w' ⟨rfl, rfl⟩
  exact ⟨rfl, Below.refl _ _⟩
/-- a job that is marked -/
def mJ (k : Nat) (j : Jb) : Jb := ((k : Int), marksO (k + 1) j.2.1.length, ((k + 1 + 3 * j.2.1.length : Nat) : Int), marksZ (k + 2 + 3 * j.2.1.length) j.2.2.2.length)
def mCh (k : Nat) (c : Ch) : Ch := ((k : Int), decide ((k + 1) % 3 = 0))
def mLog (k : Nat) (l : List Ch) : List Ch := markRow mCh (fun _ => 2) k l
def mCo (k : Nat) (c : Co) : Co := (c.1, c.2.1, c.2.2.1, markRow mJ cntJ k c.2.2.2.1, mLog (k + cntAll cntJ c.2.2.2.1) c.2.2.2.2.1, c.2.2.2.2.2)
theorem job_set0 {w : World} {vs : List Value} {j : Jb} {F : List Nat} {k : Int} (hk : (Lit.int .i64 k).wf = true) (h : jobR.own w vs j F) : jobR.own w (vs.set 0 (.int .i64 k)) (k, j.2.1, j.2.2.1, j.2.2.2) F := by
  obtain ⟨x, y, rfl, k1, k3, h1, h2, h3, h4⟩ := job_own.1 h
  exact job_own.2 ⟨x, y, rfl, hk, k3, h1, h2, h3, h4⟩
theorem job_set2 {w : World} {vs : List Value} {j : Jb} {F : List Nat} {k : Int} (hk : (Lit.int .i64 k).wf = true) (h : jobR.own w vs j F) : jobR.own w (vs.set 2 (.int .i64 k)) (j.1, j.2.1, k, j.2.2.2) F := by
  obtain ⟨x, y, rfl, k1, k3, h1, h2, h3, h4⟩ := job_own.1 h
  exact job_own.2 ⟨x, y, rfl, k1, hk, h1, h2, h3, h4⟩
theorem job_parts {w : World} {us : List Value} {x : Jb} {F : List Nat} (h : jobR.own w us x F) : ∃ oa ol oc ya yl yc F1 F2, us = [.int .i64 x.1, .slice oa ol oc, .int .i64 x.2.2.1, .slice ya yl yc] ∧ (Lit.int .i64 x.1).wf = true ∧ (Lit.int .i64 x.2.2.1).wf = true ∧ opsR.own w [.slice oa ol oc] x.2.1 F1 ∧ intsR.own w [.slice ya yl yc] x.2.2.2 F2 ∧ F = F1 ++ F2 ∧ (F1 ++ F2).Nodup := by
  obtain ⟨x', y, e, k1, k3, h1, h2, h3, h4⟩ := job_own.1 h
  have hx := ops_own.2 ⟨h1, rfl⟩
  have hy := ints_own.2 ⟨h2, rfl⟩
  obtain ⟨oa, ol, oc, e1⟩ := slice_shape hx
  obtain ⟨ya, yl, yc, e2⟩ := slice_shape hy
  subst e1 e2
  rw [h3] at h4
  exact ⟨oa, ol, oc, ya, yl, yc, _, _, e, k1, k3, hx, hy, h3, h4⟩
set_option maxRecDepth 100000 in
set_option maxHeartbeats 4000000 in
theorem markJobS (g n cap : Nat) (l : List Jb) (q : Parts) (k0 : Nat) (w : World) (h : OwnG 96 jobR w (.slice (some ⟨g, 0, none⟩) n cap) l q) (hk1 : 1 ≤ k0) (hk : k0 + cntAll cntJ l ≤ 1099511627776) :
    Calls Tryz.prog 55 #[.slice (some ⟨g, 0, none⟩) n cap, .int .i64 (k0 : Int)] w fun e w' => e = .returned (.int .i64 ((k0 + cntAll cntJ l : Nat) : Int)) ∧ ∃ q', OwnG 96 jobR w' (.slice (some ⟨g, 0, none⟩) n cap) (markRow mJ cntJ k0 l) q' ∧ blocksOf q' = blocksOf q ∧ lay.Frame (g :: blocksOf q) w w' := by
  have hnl := h.nlen
  subst hnl
  have hlm : l.length ≤ maxLen := by rcases h.shape with ⟨e, _⟩ | ⟨_, _, _, h1, h2⟩; cases e; omega
  unfold maxLen at hlm
  go_enter Tryz.func55, Tryz.ntmps55
  go_wp2_with fail
  go_loopw [5, 1] (fun iv kv wr => ∃ (i : Nat) (q' : Parts), i ≤ l.length ∧ iv = .int .i64 (i : Int) ∧ kv = .int .i64 ((k0 + cntTo cntJ l i : Nat) : Int) ∧ OwnG 96 jobR wr (.slice (some ⟨g, 0, none⟩) l.length cap) (mapTo (markF mJ cntJ k0 l) l i) q' ∧ blocksOf q' = blocksOf q ∧ lay.Frame (g :: blocksOf q) w wr) (fun iv _ _ => l.length - (intOf iv).toNat)
  case atStart => exact ⟨0, q, Nat.zero_le _, rfl, by rw [cntTo_zero]; rfl, by rw [mapTo_zero]; exact h, rfl, lay.Frame.refl _ _⟩
  case round =>
    obtain ⟨i, q', hi, rfl, rfl, hO, hq, hFr⟩ := hrel
    by_cases hlt : i < l.length
    · have hii : (i : Int) < (l.length : Int) := by omega
      obtain ⟨L, hL⟩ : ∃ L, mapTo (markF mJ cntJ k0 l) l i = L := ⟨_, rfl⟩
      have HLL : Hid (L.length = l.length) := by show _ = _; rw [← hL, mapTo_length]
      have hLi : i < L.length := by rw [HLL.out]; exact hlt
      have HLat : Hid (L[i] = l[i]) := by show _ = _; have := mapTo_at (markF mJ cntJ k0 l) i hlt; simp only [hL] at this; exact this
      have HSET : Hid (L.set i (markF mJ cntJ k0 l i l[i]) = mapTo (markF mJ cntJ k0 l) l (i + 1)) := by show _ = _; rw [← hL]; exact mapTo_set _ i hlt
      rw [hL] at hO
      have HCS := Hid.mk' (cntTo_succ cntJ l i hlt)
      have hcl := cntTo_le cntJ l (i + 1)
      obtain ⟨K, hK⟩ : ∃ K, k0 + cntTo cntJ l i = K := ⟨_, rfl⟩
      have HMF : Hid (markF mJ cntJ k0 l i l[i] = mJ K l[i]) := by show _ = _; unfold markF; rw [hK]
      rw [HCS.out] at hcl
      have hcj : K + cntJ l[i] ≤ k0 + cntAll cntJ l := by omega
      have HKN : Hid (K + cntJ l[i] = k0 + cntTo cntJ l (i + 1)) := by show _ = _; rw [HCS.out]; omega
      simp only [hK]
      have hK1 : 1 ≤ K := by omega
      clear hL hcl hK
      rw [HMF.out] at HSET
      have HJ : Hid (mJ K l[i] = ((K : Int), marksO (K + 1) l[i].2.1.length, ((K + 1 + 3 * l[i].2.1.length : Nat) : Int), marksZ (K + 2 + 3 * l[i].2.1.length) l[i].2.2.2.length)) := rfl
      have hcn : cntJ l[i] = 2 + 3 * l[i].2.1.length + l[i].2.2.2.length := rfl
      generalize l[i] = x at *
      obtain ⟨tx, ops, st, yes⟩ := x
      simp only [] at HJ hcn
      obtain ⟨tot, htot⟩ : ∃ t, cntAll cntJ l = t := ⟨_, rfl⟩
      rw [htot] at hcj hk
      -- the number
      obtain ⟨us, F, hx, hc, _, _⟩ := hO.open i hLi
      rw [HLat.out] at hx
      obtain ⟨oa, ol, oc, ya, yl, yc, F1, F2, rfl, _⟩ := job_parts hx
      have c0 := hc 0 _ rfl
      have f0 := hO.frozen (i * 4)
      have wK : (Lit.int .i64 (K : Int)).wf = true := WalkArith.wf_i64 (by omega)
      obtain ⟨q1, hO1, hq1, hg1⟩ := hO.cell1 i hLi 0 (by decide) (.int .i64 (K : Int)) ((K : Int), ops, st, yes) (fun vs F hv => by rw [HLat.out] at hv; exact job_set0 wK hv)
      have e4 : i * jobR.size + 0 = i * 4 := rfl
      rw [e4] at hO1 hg1 c0
      have hFr1 := hFr.grown hg1 (fun k e => by cases e; exact .inl (by simp))
      have hL1 : i < (L.set i ((K : Int), ops, st, yes)).length := by simpa using hLi
      obtain ⟨us1, G, hx1, hc1, hG1, bk1⟩ := hO1.open i hL1
      rw [set_at hLi] at hx1
      obtain ⟨oa1, ol1, oc1, ya1, yl1, yc1, G1, G2, rfl, k1a, k3a, hop1, hye1, rfl, hnd1⟩ := job_parts hx1
      have d1 : (wr.setCell ⟨g, i * 4, none⟩ (.int .i64 (K : Int))).cell? ⟨g, i * 4 + 1, none⟩ = some (.slice oa1 ol1 oc1) := hc1 1 _ rfl
      have HMO := Hid.mk' (markOps_R oa1 ol1 oc1 ops G1 (K + 1) _ hop1 (by omega) (by omega))
      have HKI : Hid (((K : Nat) : Int) + 1 = ((K + 1 : Nat) : Int)) := by show _ = _; omega
      have hKb : K + 2 + 3 * ops.length + yes.length ≤ 1099511627776 := by omega
      have hs1 := hg1.size
      have HBK := Hid.mk' bk1
      have HYE := Hid.mk' hye1
      have HGB := Hid.mk' hG1
      clear hO hx hc hO1 hx1 hc1 bk1 hop1 hG1 hg1
      go_wp2_with fail
      rw [HKI.out]
      refine HMO.out.mono ?_
      have hlen1 := (L.set i ((K : Int), ops, st, yes)).length
      rintro e w2 ⟨rfl, hop2, hf2⟩
      have hye2 := intsR.ownFrame HYE.out hf2 (fun k hk hk2 => (nodup_parts hnd1).2.2 k hk2 hk)
      have hO2 := HBK.out w2 ((K : Int), marksO (K + 1) ops.length, st, yes) G1 hf2 (fun k hk => List.mem_append.2 (.inl hk)) (job_mk k1a k3a hop2 hye2 hnd1)
      rw [List.set_set] at hO2
      have hFr2 := hFr1.trans hf2 (fun k hk => .inl (List.mem_cons_of_mem _ (by rw [← hq, ← hq1]; exact HGB.out k (List.mem_append.2 (.inl hk)))))
      -- the state
      have hL2 : i < (L.set i ((K : Int), marksO (K + 1) ops.length, st, yes)).length := by simpa using hLi
      obtain ⟨us2, H, hx2, hc2, _, _⟩ := hO2.open i hL2
      rw [set_at hLi] at hx2
      obtain ⟨oa2, ol2, oc2, ya2, yl2, yc2, _, _, rfl, _⟩ := job_parts hx2
      have c2 := hc2 2 _ rfl
      have f2 := hO2.frozen (i * 4 + 2)
      have wK3 : (Lit.int .i64 ((K + 1 + 3 * ops.length : Nat) : Int)).wf = true := WalkArith.wf_i64 (by omega)
      obtain ⟨q3, hO3, hq3, hg3⟩ := hO2.cell1 i hL2 2 (by decide) (.int .i64 ((K + 1 + 3 * ops.length : Nat) : Int)) ((K : Int), marksO (K + 1) ops.length, ((K + 1 + 3 * ops.length : Nat) : Int), yes) (fun vs F hv => by rw [set_at hLi] at hv; exact job_set2 wK3 hv)
      have e42 : i * jobR.size + 2 = i * 4 + 2 := rfl
      rw [e42] at hO3 hg3 c2
      rw [List.set_set] at hO3
      have hFr3 := hFr2.grown hg3 (fun k e => by cases e; exact .inl (by simp))
      have hL3 : i < (L.set i ((K : Int), marksO (K + 1) ops.length, ((K + 1 + 3 * ops.length : Nat) : Int), yes)).length := by simpa using hLi
      obtain ⟨us3, H3, hx3, hc3, hG3, bk3⟩ := hO3.open i hL3
      rw [set_at hLi] at hx3
      obtain ⟨oa3, ol3, oc3, ya3, yl3, yc3, J1, J2, rfl, k1c, k3c, hop3, hye3, rfl, hnd3⟩ := job_parts hx3
      have d3 : (w2.setCell ⟨g, i * 4 + 2, none⟩ (.int .i64 ((K + 1 + 3 * ops.length : Nat) : Int))).cell? ⟨g, i * 4 + 3, none⟩ = some (.slice ya3 yl3 yc3) := hc3 3 _ rfl
      have HMZ := Hid.mk' (markInts_R ya3 yl3 yc3 yes J2 (K + 2 + 3 * ops.length) _ hye3 (by omega))
      have HBK3 := Hid.mk' bk3
      have HOP3 := Hid.mk' hop3
      have HGB3 := Hid.mk' hG3
      have HKI3 : Hid (((K + 1 + 3 * ops.length : Nat) : Int) + 1 = ((K + 2 + 3 * ops.length : Nat) : Int)) := by show _ = _; omega
      have hKKb : ((K + 1 + 3 * ops.length : Nat) : Int) ≤ 1099511627776 ∧ 0 ≤ ((K + 1 + 3 * ops.length : Nat) : Int) := by omega
      clear HBK HMO hop2 hye2 hO2 hx2 hc2 hO3 hx3 hc3 bk3 hye3 hop3 hG3 hf2 hg3 c0 f0 d1
      generalize ((K + 1 + 3 * ops.length : Nat) : Int) = KK at *
      go_wp2_with fail
      rw [HKI3.out]
      refine HMZ.out.mono ?_
      rintro e w4 ⟨rfl, hye4, hf4⟩
      have hop4 := opsR.ownFrame HOP3.out hf4 (fun k hk hk2 => (nodup_parts hnd3).2.2 k hk hk2)
      have hO4 := HBK3.out w4 ((K : Int), marksO (K + 1) ops.length, KK, marksZ (K + 2 + 3 * ops.length) yes.length) J2 hf4 (fun k hk => List.mem_append.2 (.inr hk)) (job_mk k1c k3c hop4 hye4 hnd3)
      rw [List.set_set] at hO4
      have hFr4 := hFr3.trans hf4 (fun k hk => .inl (List.mem_cons_of_mem _ (by rw [← hq, ← hq1, ← hq3]; exact HGB3.out k (List.mem_append.2 (.inr hk)))))
      have HO4 : Hid (OwnG 96 jobR w4 (.slice (some ⟨g, 0, none⟩) l.length cap) (mapTo (markF mJ cntJ k0 l) l (i + 1)) q3) := by
        show OwnG _ _ _ _ _ _
        rw [← HSET.out, HJ.out]
        exact hO4
      have HQ4 : Hid (blocksOf q3 = blocksOf q) := hq3.trans (hq1.trans hq)
      have HK4 : Hid (K + 2 + 3 * ops.length + yes.length = k0 + cntTo cntJ l (i + 1)) := by show _ = _; rw [← HKN.out, hcn]; omega
      clear hO4 hop4 hye4 hf4 HBK3 HMZ HOP3 c2 f2 d3
      go_wp2_with fail
      go_roundw
      case rel => exact ⟨i + 1, q3, by omega, by go_num, congrArg (Value.int .i64) (by have := HK4.out; omega), HO4.out, HQ4.out, hFr4⟩
      case measure => simp [intOf]; omega
    · have he : i = l.length := by omega
      subst he
      rw [mapTo_all] at hO
      rw [cntTo_all]
      go_wp2_with fail
      go_ret
      exact ⟨rfl, q', hO, hq, hFr⟩
set_option maxRecDepth 100000 in
theorem markJobs_nil (k0 : Nat) (w : World) : Calls Tryz.prog 55 #[.slice none 0 0, .int .i64 (k0 : Int)] w fun e w' => e = .returned (.int .i64 (k0 : Int)) ∧ w' = w := by
  go_enter Tryz.func55, Tryz.ntmps55
  go_wp2
  go_loopw [5, 1] (fun i x wr => i = .int .i64 0 ∧ x = .int .i64 (k0 : Int) ∧ wr = w) (fun _ _ _ => 0)
  case atStart => exact ⟨rfl, rfl, rfl⟩
  case round =>
    obtain ⟨rfl, rfl, rfl⟩ := hrel
    go_wp2
    go_ret
    exact ⟨rfl, rfl⟩
theorem markJobs_R (a : Option Addr) (n c : Nat) (l : List Jb) (F : List Nat) (k0 : Nat) (w : World) (h : jobsR.own w [.slice a n c] l F) (hk1 : 1 ≤ k0) (hk : k0 + cntAll cntJ l ≤ 1099511627776) :
    Calls Tryz.prog 55 #[.slice a n c, .int .i64 (k0 : Int)] w fun e w' => e = .returned (.int .i64 ((k0 + cntAll cntJ l : Nat) : Int)) ∧ jobsR.own w' [.slice a n c] (markRow mJ cntJ k0 l) F ∧ lay.Frame F w w' := by
  obtain ⟨v, q, e, rfl, hO⟩ := h
  cases e
  rcases hO.shape with ⟨e, rfl, rfl⟩ | ⟨g, cap, e, _⟩
  · cases e
    refine (markJobs_nil k0 w).mono ?_
    rintro e w' ⟨rfl, rfl⟩
    exact ⟨by simp [cntAll], own_nil _ _ _, lay.Frame.refl _ _⟩
  · simp only [Value.slice.injEq] at e
    obtain ⟨rfl, rfl, rfl⟩ := e
    refine (markJobS g l.length c l q k0 w hO hk1 hk).mono ?_
    rintro e w' ⟨rfl, q', hO', hq, hf⟩
    exact ⟨rfl, ⟨_, q', rfl, by rw [hq], hO'⟩, by simpa [Value.ownBlock] using hf⟩
end Go.Proofs.YtdeaiefhegjalaaGreat.cos

namespace Go.Proofs.YtdeaiefhegjalaaGreat.cos
open Go Go.RowKit Go.Proofs.YtdeaiefhegjalaaGreat.base Go.Proofs.YtdeaiefhegjalaaGreat.pairs Go.Proofs.YtdeaiefhegjalaaGreat.ords Go.Proofs.YtdeaiefhegjalaaGreat.lay Go.Proofs.YtdeaiefhegjalaaGreat.wds
set_option linter.unusedVariables false
set_option linter.unusedSimpArgs false

set_option maxRecDepth 100000 in
set_option maxHeartbeats 4000000 in
theorem heldJobS (a : Option Addr) (n cap : Nat) (l : List Jb) (k0 : Nat) (w : World) (h : SlG jobR w a n (markRow mJ cntJ k0 l)) (hk1 : 1 ≤ k0) (hk : k0 + cntAll cntJ l ≤ 1099511627776) :
    Calls Tryz.prog 57 #[.slice a n cap, .int .i64 (k0 : Int)] w fun e w' => e = .returned (.int .i64 ((k0 + cntAll cntJ l : Nat) : Int)) ∧ Below w.heap.size w w' := by
  have hnl : n = l.length := by have := h.1; rw [markRow_length] at this; omega
  subst hnl
  have hlm := h.2.1
  unfold maxLen at hlm
  go_enter Tryz.func57, Tryz.ntmps57
  go_wp2_with fail
  go_loopw [5, 1] (fun iv kv wr => ∃ i : Nat, i ≤ l.length ∧ iv = .int .i64 (i : Int) ∧ kv = .int .i64 ((k0 + cntTo cntJ l i : Nat) : Int) ∧ Below w.heap.size w wr) (fun iv _ _ => l.length - (intOf iv).toNat)
  case atStart => exact ⟨0, Nat.zero_le _, rfl, by rw [cntTo_zero]; rfl, Below.refl _ _⟩
  case round =>
    obtain ⟨i, hi, rfl, rfl, hB⟩ := hrel
    by_cases hlt : i < l.length
    · have hii : (i : Int) < (l.length : Int) := by omega
      obtain ⟨b, off, e⟩ := slg_some h (by omega)
      subst e
      have hlt2 : i < (markRow mJ cntJ k0 l).length := by rw [markRow_length]; exact hlt
      obtain ⟨c0, c2, ⟨oa, ol, oc, c1, hO, hoc⟩, ya, yl, yc, c3, hY, hyc⟩ := job_at (h.below hB) i hlt2
      have hat := markRow_at mJ cntJ k0 l i hlt
      simp only [hat] at c0 c2 hO hY
      have HCS := Hid.mk' (cntTo_succ cntJ l i hlt)
      have hcl := cntTo_le cntJ l (i + 1)
      obtain ⟨K, hK⟩ : ∃ K, k0 + cntTo cntJ l i = K := ⟨_, rfl⟩
      rw [HCS.out] at hcl
      have hcj : K + cntJ l[i] ≤ k0 + cntAll cntJ l := by omega
      have HKN : Hid (K + cntJ l[i] = k0 + cntTo cntJ l (i + 1)) := by show _ = _; rw [HCS.out]; omega
      simp only [hK] at c0 c2 hO hY ⊢
      have hcn : cntJ l[i] = 2 + 3 * l[i].2.1.length + l[i].2.2.2.length := rfl
      have hK1 : 1 ≤ K := by omega
      clear hcl hK hat
      generalize l[i] = x at *
      obtain ⟨tx, ops, st, yes⟩ := x
      simp only [mJ] at c0 c2 hO hY hcn
      have hKb : K + 2 + 3 * ops.length + yes.length ≤ 1099511627776 := by omega
      have HO := Hid.mk' (heldOps_R oa ol oc ops.length (K + 1) wr hO (by omega) (by omega))
      have HZ := Hid.mk' (fun wx (hx : Below wr.heap.size wr wx) => heldInts_R ya yl yc yes.length (K + 2 + 3 * ops.length) wx (hY.below hx) (by omega))
      have HKI : Hid (((K : Nat) : Int) + 1 = ((K + 1 : Nat) : Int)) := by show _ = _; omega
      have HKI3 : Hid (((K + 1 + 3 * ops.length : Nat) : Int) + 1 = ((K + 2 + 3 * ops.length : Nat) : Int)) := by show _ = _; omega
      have HK4 : Hid (K + 2 + 3 * ops.length + yes.length = k0 + cntTo cntJ l (i + 1)) := by show _ = _; rw [← HKN.out, hcn]; omega
      have hlb := World.block_lt_of_cell? _ _ c2
      clear hO hY hcn HKN HCS hcj
      have hne0 : ((K : Int) != (K : Int)) = false := by simp
      go_wp2_with fail
      rw [HKI.out]
      refine HO.out.mono ?_
      rintro e w2 ⟨rfl, hb2⟩
      have d2 := (hb2.cell (p := ⟨b, off + i * 4 + 2, none⟩) hlb).trans c2
      have d3 := (hb2.cell (p := ⟨b, off + i * 4 + 3, none⟩) hlb).trans c3
      have hKKb : ((K + 1 + 3 * ops.length : Nat) : Int) ≤ 1099511627776 ∧ 0 ≤ ((K + 1 + 3 * ops.length : Nat) : Int) := by omega
      have HZ2 := Hid.mk' (HZ.out w2 hb2)
      clear c0 c1 c2 c3 HO HZ hne0
      have HKKe : Hid (K + 1 + 3 * ops.length = K + 1 + 3 * ops.length) := rfl
      generalize ((K + 1 + 3 * ops.length : Nat) : Int) = KK at *
      have hn0 : ¬ KK < 0 := by omega
      have hne : (KK != KK) = false := by simp
      go_wp2_with fail
      rw [HKI3.out]
      refine HZ2.out.mono ?_
      rintro e w3 ⟨rfl, hb3⟩
      have hB3 := (hB.trans (hb2.mono hB.size)).trans (hb3.mono (hB.trans (hb2.mono hB.size)).size)
      have hnn : ¬ ((K + 2 + 3 * ops.length + yes.length : Nat) : Int) < 0 := by omega
      clear d2 d3 HZ2 hne
      generalize hQ : ((K + 2 + 3 * ops.length + yes.length : Nat) : Int) = Q at *
      have HQ := Hid.mk' hQ
      clear hQ
      go_wp2_with fail
      go_roundw
      case rel => exact ⟨i + 1, by omega, by go_num, congrArg (Value.int .i64) (by rw [← HK4.out]; exact HQ.out.symm), hB3⟩
      case measure => simp [intOf]; omega
    · have he : i = l.length := by omega
      subst he
      rw [cntTo_all]
      go_wp2_with fail
      go_ret
      exact ⟨rfl, hB⟩
theorem mod3 (K : Nat) : (((K + 1 : Nat) : Int) % 3 == 0) = decide ((K + 1) % 3 = 0) := by
  by_cases h : (K + 1) % 3 = 0
  · rw [decide_eq_true h]
    exact beq_iff_eq.2 (by omega)
  · rw [decide_eq_false h]
    exact beq_eq_false_iff_ne.2 (by omega)
theorem ch_set0 {w : World} {vs : List Value} {x : Ch} {F : List Nat} {k : Int} (hk : (Lit.int .i64 k).wf = true) (h : chR.own w vs x F) : chR.own w (vs.set 0 (.int .i64 k)) (k, x.2) F := by
  obtain ⟨rfl, _, rfl⟩ := flat_ch.own.1 h
  exact flat_ch.own.2 ⟨rfl, ⟨hk, trivial⟩, rfl⟩
theorem ch_set1 {w : World} {vs : List Value} {x : Ch} {F : List Nat} {y : Bool} (h : chR.own w vs x F) : chR.own w (vs.set 1 (.bool y)) (x.1, y) F := by
  obtain ⟨rfl, h2, rfl⟩ := flat_ch.own.1 h
  exact flat_ch.own.2 ⟨rfl, ⟨h2.1, trivial⟩, rfl⟩
set_option maxRecDepth 100000 in
set_option maxHeartbeats 4000000 in
theorem markChoiceS (g n cap : Nat) (l : List Ch) (q : Parts) (k0 : Nat) (w : World) (h : OwnG 74 chR w (.slice (some ⟨g, 0, none⟩) n cap) l q) (hk : k0 + 2 * l.length ≤ 1099511627776) :
    Calls Tryz.prog 56 #[.slice (some ⟨g, 0, none⟩) n cap, .int .i64 (k0 : Int)] w fun e w' => e = .returned (.int .i64 ((k0 + 2 * l.length : Nat) : Int)) ∧ ∃ q', OwnG 74 chR w' (.slice (some ⟨g, 0, none⟩) n cap) (mLog k0 l) q' ∧ lay.Frame [g] w w' := by
  have hnl := h.nlen
  subst hnl
  have hlm : l.length ≤ maxLen := by rcases h.shape with ⟨e, _⟩ | ⟨_, _, _, h1, h2⟩; cases e; omega
  unfold maxLen at hlm
  have HCT : Hid (∀ i, i ≤ l.length → cntTo (fun _ => 2) l i = 2 * i) := fun i hi => by
    unfold cntTo
    have : ((l.take i).map fun _ => 2) = List.replicate i 2 := by
      refine List.ext_getElem (by simp; omega) fun j h1 h2 => by simp
    rw [this]; simp; omega
  go_enter Tryz.func56, Tryz.ntmps56
  go_wp2_with fail
  go_loopw [5, 1] (fun iv kv wr => ∃ (i : Nat) (q' : Parts), i ≤ l.length ∧ iv = .int .i64 (i : Int) ∧ kv = .int .i64 ((k0 + 2 * i : Nat) : Int) ∧ OwnG 74 chR wr (.slice (some ⟨g, 0, none⟩) l.length cap) (mapTo (markF mCh (fun _ => 2) k0 l) l i) q' ∧ lay.Frame [g] w wr) (fun iv _ _ => l.length - (intOf iv).toNat)
  case atStart => exact ⟨0, q, Nat.zero_le _, rfl, rfl, by rw [mapTo_zero]; exact h, lay.Frame.refl _ _⟩
  case round =>
    obtain ⟨i, q', hi, rfl, rfl, hO, hFr⟩ := hrel
    by_cases hlt : i < l.length
    · have hii : (i : Int) < (l.length : Int) := by omega
      obtain ⟨L, hL⟩ : ∃ L, mapTo (markF mCh (fun _ => 2) k0 l) l i = L := ⟨_, rfl⟩
      have hLi : i < L.length := by rw [← hL, mapTo_length]; exact hlt
      have HSET : Hid (L.set i (markF mCh (fun _ => 2) k0 l i l[i]) = mapTo (markF mCh (fun _ => 2) k0 l) l (i + 1)) := by show _ = _; rw [← hL]; exact mapTo_set _ i hlt
      rw [hL] at hO
      obtain ⟨K, hK⟩ : ∃ K, k0 + 2 * i = K := ⟨_, rfl⟩
      have HMF : Hid (markF mCh (fun _ => 2) k0 l i l[i] = ((K : Int), decide ((K + 1) % 3 = 0))) := by show _ = _; unfold markF mCh; rw [HCT.out i hi, hK]
      rw [HMF.out] at HSET
      have hKb : K + 2 ≤ 1099511627776 := by omega
      have HKN : Hid (K + 2 = k0 + 2 * (i + 1)) := by show _ = _; omega
      simp only [hK]
      clear hL HMF hK
      obtain ⟨us, F, hx, hc, _, _⟩ := hO.open i hLi
      obtain ⟨rfl, _⟩ := flat_ch.own.1 hx
      have c0 : wr.cell? ⟨g, i * 2, none⟩ = some (.int .i64 L[i].1) := hc 0 _ rfl
      have f0 := hO.frozen (i * 2)
      have wK : (Lit.int .i64 (K : Int)).wf = true := WalkArith.wf_i64 (by omega)
      obtain ⟨q1, hO1, _, hg1⟩ := hO.cell1 i hLi 0 (by decide) (.int .i64 (K : Int)) ((K : Int), L[i].2) (fun vs F hv => ch_set0 wK hv)
      have e4 : i * chR.size + 0 = i * 2 := rfl
      rw [e4] at hO1 hg1
      have hFr1 := hFr.grown hg1 (fun k e => by cases e; exact .inl (by simp))
      have hL1 : i < (L.set i ((K : Int), L[i].2)).length := by simpa using hLi
      obtain ⟨us1, G, hx1, hc1, _, _⟩ := hO1.open i hL1
      obtain ⟨rfl, _⟩ := flat_ch.own.1 hx1
      have c1 : (wr.setCell ⟨g, i * 2, none⟩ (.int .i64 (K : Int))).cell? ⟨g, i * 2 + 1, none⟩ = some (.bool ((L.set i ((K : Int), L[i].2))[i]).2) := hc1 1 _ rfl
      have f1 := hO1.frozen (i * 2 + 1)
      obtain ⟨q2, hO2, _, hg2⟩ := hO1.cell1 i hL1 1 (by decide) (.bool (decide ((K + 1) % 3 = 0))) ((K : Int), decide ((K + 1) % 3 = 0)) (fun vs F hv => by rw [set_at hLi] at hv; exact ch_set1 hv)
      have e42 : i * chR.size + 1 = i * 2 + 1 := rfl
      rw [e42] at hO2 hg2
      rw [List.set_set, HSET.out] at hO2
      have hFr2 := hFr1.grown hg2 (fun k e => by cases e; exact .inl (by simp))
      have HO2 := Hid.mk' hO2
      have HFR := Hid.mk' hFr2
      have HM := Hid.mk' (mod3 K)
      have HKI : Hid (((K : Nat) : Int) + 1 = ((K + 1 : Nat) : Int)) := by show _ = _; omega
      generalize L[i].1 = z0 at *
      generalize ((L.set i ((K : Int), L[i].2))[i]).2 = z1 at *
      clear hO hO1 hO2 hx hx1 hc hc1 hFr2 hFr1 hg1 hg2
      generalize hMM : decide ((K + 1) % 3 = 0) = mm at *
      have hmm : ((((K : Nat) : Int) + 1) % 3 == 0) = mm := by rw [HKI.out, HM.out]
      clear hMM HM
      cases mm
      all_goals
        go_wp2_with fail
        go_roundw
        case rel => exact ⟨i + 1, q2, by omega, by go_num, congrArg (Value.int .i64) (by have := HKN.out; omega), HO2.out, HFR.out⟩
        case measure => simp [intOf]; omega
    · have he : i = l.length := by omega
      subst he
      rw [mapTo_all] at hO
      go_wp2_with fail
      go_ret
      exact ⟨rfl, q', hO, hFr⟩
set_option maxRecDepth 100000 in
theorem markChs_nil (k0 : Nat) (w : World) : Calls Tryz.prog 56 #[.slice none 0 0, .int .i64 (k0 : Int)] w fun e w' => e = .returned (.int .i64 (k0 : Int)) ∧ w' = w := by
  go_enter Tryz.func56, Tryz.ntmps56
  go_wp2
  go_loopw [5, 1] (fun i x wr => i = .int .i64 0 ∧ x = .int .i64 (k0 : Int) ∧ wr = w) (fun _ _ _ => 0)
  case atStart => exact ⟨rfl, rfl, rfl⟩
  case round =>
    obtain ⟨rfl, rfl, rfl⟩ := hrel
    go_wp2
    go_ret
    exact ⟨rfl, rfl⟩
theorem markChs_R (a : Option Addr) (n c : Nat) (l : List Ch) (F : List Nat) (k0 : Nat) (w : World) (h : logR.own w [.slice a n c] l F) (hk : k0 + 2 * l.length ≤ 1099511627776) :
    Calls Tryz.prog 56 #[.slice a n c, .int .i64 (k0 : Int)] w fun e w' => e = .returned (.int .i64 ((k0 + 2 * l.length : Nat) : Int)) ∧ logR.own w' [.slice a n c] (mLog k0 l) F ∧ lay.Frame F w w' := by
  obtain ⟨⟨q, hO⟩, rfl⟩ := logs_own.1 h
  rcases hO.shape with ⟨e, rfl, rfl⟩ | ⟨g, cap, e, _⟩
  · cases e
    refine (markChs_nil k0 w).mono ?_
    rintro e w' ⟨rfl, rfl⟩
    exact ⟨by simp, own_nil _ _ _, lay.Frame.refl _ _⟩
  · simp only [Value.slice.injEq] at e
    obtain ⟨rfl, rfl, rfl⟩ := e
    refine (markChoiceS g l.length c l q k0 w hO hk).mono ?_
    rintro e w' ⟨rfl, q', hO', hf⟩
    exact ⟨rfl, logs_own.2 ⟨⟨q', hO'⟩, rfl⟩, by simpa [Value.ownBlock] using hf⟩
set_option maxRecDepth 100000 in
set_option maxHeartbeats 2000000 in
theorem heldChoiceS (a : Option Addr) (n cap : Nat) (l : List Ch) (k0 : Nat) (w : World) (h : SlG chR w a n (mLog k0 l)) (hk : k0 + 2 * l.length ≤ 1099511627776) :
    Calls Tryz.prog 58 #[.slice a n cap, .int .i64 (k0 : Int)] w fun e w' => e = .returned (.int .i64 ((k0 + 2 * l.length : Nat) : Int)) ∧ w' = w := by
  have hnl : n = l.length := by have := h.1; unfold mLog at this; rw [markRow_length] at this; omega
  subst hnl
  have hlm := h.2.1
  unfold maxLen at hlm
  have HCT : Hid (∀ i, i ≤ l.length → cntTo (fun _ => 2) l i = 2 * i) := fun i hi => by
    unfold cntTo
    have : ((l.take i).map fun _ => 2) = List.replicate i 2 := by
      refine List.ext_getElem (by simp; omega) fun j h1 h2 => by simp
    rw [this]; simp; omega
  go_enter Tryz.func58, Tryz.ntmps58
  go_wp2
  go_loop [5, 1] (fun iv kv => ∃ i : Nat, i ≤ l.length ∧ iv = .int .i64 (i : Int) ∧ kv = .int .i64 ((k0 + 2 * i : Nat) : Int)) (fun iv _ => l.length - (intOf iv).toNat)
  case atStart => exact ⟨0, Nat.zero_le _, rfl, rfl⟩
  case round =>
    obtain ⟨i, hi, rfl, rfl⟩ := hrel
    by_cases hlt : i < l.length
    · have hii : (i : Int) < (l.length : Int) := by omega
      obtain ⟨b, off, e⟩ := slg_some h (by omega)
      subst e
      have hlt2 : i < (mLog k0 l).length := by unfold mLog; rw [markRow_length]; exact hlt
      obtain ⟨c0, c1⟩ := ch_at h i hlt2
      have hat := markRow_at mCh (fun _ => 2) k0 l i hlt
      obtain ⟨K, hK⟩ : ∃ K, k0 + 2 * i = K := ⟨_, rfl⟩
      have hat2 : (mLog k0 l)[i] = ((K : Int), decide ((K + 1) % 3 = 0)) := hat.trans (by unfold mCh; rw [HCT.out i hi, hK])
      simp only [hat2] at c0 c1
      have hKb : K + 2 ≤ 1099511627776 := by omega
      have HKN : Hid (K + 2 = k0 + 2 * (i + 1)) := by show _ = _; omega
      simp only [hK]
      have HM := Hid.mk' (mod3 K)
      have HKI : Hid (((K : Nat) : Int) + 1 = ((K + 1 : Nat) : Int)) := by show _ = _; omega
      clear hat hat2 hK
      generalize hMM : decide ((K + 1) % 3 = 0) = mm at *
      have hmm : ((((K : Nat) : Int) + 1) % 3 == 0) = mm := by rw [HKI.out, HM.out]
      have hne : ((K : Int) != (K : Int)) = false := by simp
      clear hMM HM
      cases mm
      all_goals
        go_wp2
        go_round
        case rel => exact ⟨i + 1, by omega, by go_num, congrArg (Value.int .i64) (by have := HKN.out; omega)⟩
        case measure => simp [intOf]; omega
    · have he : i = l.length := by omega
      subst he
      go_wp2
      go_ret
      exact ⟨rfl, rfl⟩
theorem cntC_eq (c : Co) : cntC c = cntAll cntJ c.2.2.2.1 + 2 * c.2.2.2.2.1.length := rfl
set_option maxRecDepth 100000 in
set_option maxHeartbeats 2000000 in
theorem markCoord (ja : Option Addr) (jn jc : Nat) (la : Option Addr) (ln lc : Nat) (c : Co) (F : List Nat) (k0 : Nat) (w : World) (h : coordR.own w [.int .i64 c.1, .int .i64 c.2.1, .int .i64 c.2.2.1, .slice ja jn jc, .slice la ln lc, .int .i64 c.2.2.2.2.2] c F) (hk1 : 1 ≤ k0) (hk : k0 + cntC c ≤ 1099511627776) :
    Calls Tryz.prog 23 #[coV c.1 c.2.1 c.2.2.1 c.2.2.2.2.2 ja jn jc la ln lc, .int .i64 (k0 : Int)] w fun e w' => e = .returned (.int .i64 ((k0 + cntC c : Nat) : Int)) ∧ coordR.own w' [.int .i64 c.1, .int .i64 c.2.1, .int .i64 c.2.2.1, .slice ja jn jc, .slice la ln lc, .int .i64 c.2.2.2.2.2] (mCo k0 c) F ∧ lay.Frame F w w' := by
  rw [cntC_eq] at hk ⊢
  obtain ⟨x, y, F1, F2, e, hwf, hj, hl, rfl, hnd⟩ := coord_own.1 h
  simp only [List.cons.injEq, and_true, true_and] at e
  obtain ⟨rfl, rfl⟩ := e
  obtain ⟨W, hW⟩ : ∃ W, w.alloc (.cells #[.int .i64 c.1, .int .i64 c.2.1, .int .i64 c.2.2.1, .slice ja jn jc, .slice la ln lc, .int .i64 c.2.2.2.2.2] 33) = W := ⟨_, rfl⟩
  have hb : Below w.heap.size w W := by rw [← hW]; exact below_make
  have hA : BoxIn w.heap.size 33 [] [.int .i64 c.1, .int .i64 c.2.1, .int .i64 c.2.2.1, .slice ja jn jc, .slice la ln lc, .int .i64 c.2.2.2.2.2] [] W := by rw [← hW]; exact boxIn_new w _ _
  have hFlt := coordR.ownLt h
  have HM1 := Hid.mk' (markJobs_R ja jn jc c.2.2.2.1 F1 k0 W (jobsR.ownBelow hj hb) hk1 (by omega))
  have HM2 := Hid.mk' (fun wx (hx : logR.own wx [.slice la ln lc] c.2.2.2.2.1 F2) => markChs_R la ln lc c.2.2.2.2.1 F2 (k0 + cntAll cntJ c.2.2.2.1) wx hx (by omega))
  have hlW := logR.ownBelow hl hb
  have HW := Hid.mk' hW
  obtain ⟨a0, a1, a2, a3, a4, a5⟩ := cells6 hA
  rw [← hW] at a0 a1 a2 a3 a4 a5
  clear hW h hj hl
  go_enter Tryz.func23, Tryz.ntmps23
  go_wp2_with fail
  rw [HW.out]
  refine HM1.out.mono ?_
  rintro e w1 ⟨rfl, hj1, hf1⟩
  have hA1 := hA.frame hf1 (fun e => by have := hFlt _ (List.mem_append.2 (.inl e)); omega)
  have hl1 := logR.ownFrame hlW hf1 (fun k hk hk2 => (nodup_parts hnd).2.2 k hk2 hk)
  have HM3 := Hid.mk' (HM2.out w1 hl1)
  clear a0 a1 a2 a3 a4 a5 HM1 HM2
  obtain ⟨a0, a1, a2, a3, a4, a5⟩ := cells6 hA1
  go_wp2_with fail
  refine HM3.out.mono ?_
  rintro e w2 ⟨rfl, hl2, hf2⟩
  have hj2 := jobsR.ownFrame hj1 hf2 (fun k hk hk2 => (nodup_parts hnd).2.2 k hk hk2)
  have hFr : lay.Frame (F1 ++ F2) w w2 := ((lay.Frame.of_below hb).trans (hf1.mono (G' := F1 ++ F2) fun k hk => List.mem_append.2 (.inl hk)) (Fresh.refl _ _)).trans (hf2.mono (G' := F1 ++ F2) fun k hk => List.mem_append.2 (.inr hk)) (Fresh.refl _ _)
  clear a0 a1 a2 a3 a4 a5
  go_wp2_with fail
  go_ret
  exact ⟨congrArg (fun z => Ending.returned (.int .i64 z)) (by omega), (coord_own (c := mCo k0 c)).2 ⟨_, _, F1, F2, rfl, ⟨hwf.n, hwf.life, hwf.next, hwf.sure⟩, hj2, hl2, rfl, hnd⟩, hFr⟩
set_option maxRecDepth 100000 in
set_option maxHeartbeats 2000000 in
theorem heldCoord (ja : Option Addr) (jn jc : Nat) (la : Option Addr) (ln lc : Nat) (c : Co) (k0 : Nat) (w : World) (h : SeeCo w ja jn jc la ln lc (mCo k0 c)) (hk1 : 1 ≤ k0) (hk : k0 + cntC c ≤ 1099511627776) :
    Calls Tryz.prog 24 #[coV c.1 c.2.1 c.2.2.1 c.2.2.2.2.2 ja jn jc la ln lc, .int .i64 (k0 : Int)] w fun e w' => e = .returned (.int .i64 ((k0 + cntC c : Nat) : Int)) ∧ Below w.heap.size w w' := by
  rw [cntC_eq] at hk ⊢
  obtain ⟨W, hW⟩ : ∃ W, w.alloc (.cells #[.int .i64 c.1, .int .i64 c.2.1, .int .i64 c.2.2.1, .slice ja jn jc, .slice la ln lc, .int .i64 c.2.2.2.2.2] 33) = W := ⟨_, rfl⟩
  have hb : Below w.heap.size w W := by rw [← hW]; exact below_make
  have hA : BoxIn w.heap.size 33 [] [.int .i64 c.1, .int .i64 c.2.1, .int .i64 c.2.2.1, .slice ja jn jc, .slice la ln lc, .int .i64 c.2.2.2.2.2] [] W := by rw [← hW]; exact boxIn_new w _ _
  have HM1 := Hid.mk' (heldJobS ja jn jc c.2.2.2.1 k0 W (h.jobs.below hb) hk1 (by omega))
  have HM2 := Hid.mk' (fun wx (hx : Below W.heap.size W wx) => heldChoiceS la ln lc c.2.2.2.2.1 (k0 + cntAll cntJ c.2.2.2.1) wx ((h.log.below hb).below hx) (by omega))
  have HW := Hid.mk' hW
  obtain ⟨a0, a1, a2, a3, a4, a5⟩ := cells6 hA
  rw [← hW] at a0 a1 a2 a3 a4 a5
  clear hW h
  generalize hQ : cntAll cntJ c.2.2.2.1 = Q at *
  have hn1 : ¬ ((k0 + Q : Nat) : Int) < 0 := by omega
  have hn2 : ¬ ((k0 + Q + 2 * c.2.2.2.2.1.length : Nat) : Int) < 0 := by omega
  go_enter Tryz.func24, Tryz.ntmps24
  go_wp2_with fail
  rw [HW.out]
  refine HM1.out.mono ?_
  rintro e w1 ⟨rfl, hb1⟩
  have HM3 := Hid.mk' (HM2.out w1 hb1)
  clear a0 a1 a2 a3 a4 a5 HM1 HM2
  obtain ⟨a0, a1, a2, a3, a4, a5⟩ := cells6 (hA.below hb1)
  go_wp2_with fail
  refine HM3.out.mono ?_
  rintro e w2 ⟨rfl, hw2⟩
  replace hw2 := hw2.symm
  subst hw2
  clear a0 a1 a2 a3 a4 a5
  go_wp2_with fail
  go_ret
  exact ⟨congrArg (fun z => Ending.returned (.int .i64 z)) (by omega), hb.trans (hb1.mono hb.size)⟩
theorem see_mco {w : World} {c : Co} {k : Nat} {ja la : Option Addr} {jn jc ln lc : Nat} (h : coordR.see w [.int .i64 c.1, .int .i64 c.2.1, .int .i64 c.2.2.1, .slice ja jn jc, .slice la ln lc, .int .i64 c.2.2.2.2.2] (mCo k c)) : SeeCo w ja jn jc la ln lc (mCo k c) := see_co (c := mCo k c) h
end Go.Proofs.YtdeaiefhegjalaaGreat.cos
