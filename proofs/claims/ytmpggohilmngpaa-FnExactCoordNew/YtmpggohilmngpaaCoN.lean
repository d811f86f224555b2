/- The laws' marks on those who decide: whether they are held; choices; the whole. -/
import Derived.Test.YtmpggohilmngpaaCoM
namespace Go.Proofs.Ytmpggohilmngpaa.cos
open Go Go.RowKit Go.Proofs.Ytmpggohilmngpaa.base Go.Proofs.Ytmpggohilmngpaa.pairs Go.Proofs.Ytmpggohilmngpaa.ords Go.Proofs.Ytmpggohilmngpaa.lay Go.Proofs.Ytmpggohilmngpaa.wds
set_option linter.unusedVariables false
set_option linter.unusedSimpArgs false

set_option maxRecDepth 100000 in
set_option maxHeartbeats 4000000 in
theorem heldJobS (a : Option Addr) (n cap : Nat) (l : List Jb) (k0 : Nat) (w : World) (h : SlG jobR w a n (markRow mJ cntJ k0 l)) (hk1 : 1 ≤ k0) (hk : k0 + cntAll cntJ l ≤ 1099511627776) :
    Calls Try.prog 15 #[.slice a n cap, .int .i64 (k0 : Int)] w fun e w' => e = .returned (.int .i64 ((k0 + cntAll cntJ l : Nat) : Int)) ∧ Below w.heap.size w w' := by
  have hnl : n = l.length := by have := h.1; rw [markRow_length] at this; omega
  subst hnl
  have hlm := h.2.1
  unfold maxLen at hlm
  go_enter Try.func15, Try.ntmps15
  go_wp2_with fail
  go_loopw [5, 1] (fun iv kv wr => ∃ i : Nat, i ≤ l.length ∧ iv = .int .i64 (i : Int) ∧ kv = .int .i64 ((k0 + cntTo cntJ l i : Nat) : Int) ∧ Below w.heap.size w wr) (fun iv _ _ => l.length - (intOf iv).toNat)
  case atStart => exact ⟨0, Nat.zero_le _, rfl, by rw [cntTo_zero]; rfl, Below.refl _ _⟩
  case round =>
    obtain ⟨i, hi, rfl, rfl, hB⟩ := hrel
    by_cases hlt : i < l.length
    · have hii : (i : Int) < (l.length : Int) := by omega
      obtain ⟨b, off, e⟩ := slg_some h (by omega)
      subst e
      have hlt2 : i < (markRow mJ cntJ k0 l).length := by rw [markRow_length]; exact hlt
      obtain ⟨c0, c2, ⟨oa, ol, oc, c1, hO, hoc⟩, ya, yl, yc, c3, hY, hyc⟩ := job_at (h.below hB) i hlt2
      have hat := markRow_at mJ cntJ k0 l i hlt
      simp only [hat] at c0 c2 hO hY
      have HCS := Hid.mk' (cntTo_succ cntJ l i hlt)
      have hcl := cntTo_le cntJ l (i + 1)
      obtain ⟨K, hK⟩ : ∃ K, k0 + cntTo cntJ l i = K := ⟨_, rfl⟩
      rw [HCS.out] at hcl
      have hcj : K + cntJ l[i] ≤ k0 + cntAll cntJ l := by omega
      have HKN : Hid (K + cntJ l[i] = k0 + cntTo cntJ l (i + 1)) := by show _ = _; rw [HCS.out]; omega
      simp only [hK] at c0 c2 hO hY ⊢
      have hcn : cntJ l[i] = 2 + 3 * l[i].2.1.length + l[i].2.2.2.length := rfl
      have hK1 : 1 ≤ K := by omega
      clear hcl hK hat
      generalize l[i] = x at *
      obtain ⟨tx, ops, st, yes⟩ := x
      simp only [mJ] at c0 c2 hO hY hcn
      have hKb : K + 2 + 3 * ops.length + yes.length ≤ 1099511627776 := by omega
      have HO := Hid.mk' (heldOps_R oa ol oc ops.length (K + 1) wr hO (by omega) (by omega))
      have HZ := Hid.mk' (fun wx (hx : Below wr.heap.size wr wx) => heldInts_R ya yl yc yes.length (K + 2 + 3 * ops.length) wx (hY.below hx) (by omega))
      have HKI : Hid (((K : Nat) : Int) + 1 = ((K + 1 : Nat) : Int)) := by show _ = _; omega
      have HKI3 : Hid (((K + 1 + 3 * ops.length : Nat) : Int) + 1 = ((K + 2 + 3 * ops.length : Nat) : Int)) := by show _ = _; omega
      have HK4 : Hid (K + 2 + 3 * ops.length + yes.length = k0 + cntTo cntJ l (i + 1)) := by show _ = _; rw [← HKN.out, hcn]; omega
      have hlb := World.block_lt_of_cell? _ _ c2
      clear hO hY hcn HKN HCS hcj
      have hne0 : ((K : Int) != (K : Int)) = false := by simp
      go_wp2_with fail
      rw [HKI.out]
      refine HO.out.mono ?_
      rintro e w2 ⟨rfl, hb2⟩
      have d2 := (hb2.cell (p := ⟨b, off + i * 4 + 2, none⟩) hlb).trans c2
      have d3 := (hb2.cell (p := ⟨b, off + i * 4 + 3, none⟩) hlb).trans c3
      have hKKb : ((K + 1 + 3 * ops.length : Nat) : Int) ≤ 1099511627776 ∧ 0 ≤ ((K + 1 + 3 * ops.length : Nat) : Int) := by omega
      have HZ2 := Hid.mk' (HZ.out w2 hb2)
      clear c0 c1 c2 c3 HO HZ hne0
      have HKKe : Hid (K + 1 + 3 * ops.length = K + 1 + 3 * ops.length) := rfl
      generalize ((K + 1 + 3 * ops.length : Nat) : Int) = KK at *
      have hn0 : ¬ KK < 0 := by omega
      have hne : (KK != KK) = false := by simp
      go_wp2_with fail
      rw [HKI3.out]
      refine HZ2.out.mono ?_
      rintro e w3 ⟨rfl, hb3⟩
      have hB3 := (hB.trans (hb2.mono hB.size)).trans (hb3.mono (hB.trans (hb2.mono hB.size)).size)
      have hnn : ¬ ((K + 2 + 3 * ops.length + yes.length : Nat) : Int) < 0 := by omega
      clear d2 d3 HZ2 hne
      generalize hQ : ((K + 2 + 3 * ops.length + yes.length : Nat) : Int) = Q at *
      have HQ := Hid.mk' hQ
      clear hQ
      go_wp2_with fail
      go_roundw
      case rel => exact ⟨i + 1, by omega, by go_num, congrArg (Value.int .i64) (by rw [← HK4.out]; exact HQ.out.symm), hB3⟩
      case measure => simp [intOf]; omega
    · have he : i = l.length := by omega
      subst he
      rw [cntTo_all]
      go_wp2_with fail
      go_ret
      exact ⟨rfl, hB⟩
theorem mod3 (K : Nat) : (((K + 1 : Nat) : Int) % 3 == 0) = decide ((K + 1) % 3 = 0) := by
  by_cases h : (K + 1) % 3 = 0
  · rw [decide_eq_true h]
    exact beq_iff_eq.2 (by omega)
  · rw [decide_eq_false h]
    exact beq_eq_false_iff_ne.2 (by omega)
theorem ch_set0 {w : World} {vs : List Value} {x : Ch} {F : List Nat} {k : Int} (hk : (Lit.int .i64 k).wf = true) (h : chR.own w vs x F) : chR.own w (vs.set 0 (.int .i64 k)) (k, x.2) F := by
  obtain ⟨rfl, _, rfl⟩ := flat_ch.own.1 h
  exact flat_ch.own.2 ⟨rfl, ⟨hk, trivial⟩, rfl⟩
theorem ch_set1 {w : World} {vs : List Value} {x : Ch} {F : List Nat} {y : Bool} (h : chR.own w vs x F) : chR.own w (vs.set 1 (.bool y)) (x.1, y) F := by
  obtain ⟨rfl, h2, rfl⟩ := flat_ch.own.1 h
  exact flat_ch.own.2 ⟨rfl, ⟨h2.1, trivial⟩, rfl⟩
set_option maxRecDepth 100000 in
set_option maxHeartbeats 4000000 in
theorem markChoiceS (g n cap : Nat) (l : List Ch) (q : Parts) (k0 : Nat) (w : World) (h : OwnG 42 chR w (.slice (some ⟨g, 0, none⟩) n cap) l q) (hk : k0 + 2 * l.length ≤ 1099511627776) :
    Calls Try.prog 14 #[.slice (some ⟨g, 0, none⟩) n cap, .int .i64 (k0 : Int)] w fun e w' => e = .returned (.int .i64 ((k0 + 2 * l.length : Nat) : Int)) ∧ ∃ q', OwnG 42 chR w' (.slice (some ⟨g, 0, none⟩) n cap) (mLog k0 l) q' ∧ lay.Frame [g] w w' := by
  have hnl := h.nlen
  subst hnl
  have hlm : l.length ≤ maxLen := by rcases h.shape with ⟨e, _⟩ | ⟨_, _, _, h1, h2⟩; cases e; omega
  unfold maxLen at hlm
  have HCT : Hid (∀ i, i ≤ l.length → cntTo (fun _ => 2) l i = 2 * i) := fun i hi => by
    unfold cntTo
    have : ((l.take i).map fun _ => 2) = List.replicate i 2 := by
      refine List.ext_getElem (by simp; omega) fun j h1 h2 => by simp
    rw [this]; simp; omega
  go_enter Try.func14, Try.ntmps14
  go_wp2_with fail
  go_loopw [5, 1] (fun iv kv wr => ∃ (i : Nat) (q' : Parts), i ≤ l.length ∧ iv = .int .i64 (i : Int) ∧ kv = .int .i64 ((k0 + 2 * i : Nat) : Int) ∧ OwnG 42 chR wr (.slice (some ⟨g, 0, none⟩) l.length cap) (mapTo (markF mCh (fun _ => 2) k0 l) l i) q' ∧ lay.Frame [g] w wr) (fun iv _ _ => l.length - (intOf iv).toNat)
  case atStart => exact ⟨0, q, Nat.zero_le _, rfl, rfl, by rw [mapTo_zero]; exact h, lay.Frame.refl _ _⟩
  case round =>
    obtain ⟨i, q', hi, rfl, rfl, hO, hFr⟩ := hrel
    by_cases hlt : i < l.length
    · have hii : (i : Int) < (l.length : Int) := by omega
      obtain ⟨L, hL⟩ : ∃ L, mapTo (markF mCh (fun _ => 2) k0 l) l i = L := ⟨_, rfl⟩
      have hLi : i < L.length := by rw [← hL, mapTo_length]; exact hlt
      have HSET : Hid (L.set i (markF mCh (fun _ => 2) k0 l i l[i]) = mapTo (markF mCh (fun _ => 2) k0 l) l (i + 1)) := by show _ = _; rw [← hL]; exact mapTo_set _ i hlt
      rw [hL] at hO
      obtain ⟨K, hK⟩ : ∃ K, k0 + 2 * i = K := ⟨_, rfl⟩
      have HMF : Hid (markF mCh (fun _ => 2) k0 l i l[i] = ((K : Int), decide ((K + 1) % 3 = 0))) := by show _ = _; unfold markF mCh; rw [HCT.out i hi, hK]
      rw [HMF.out] at HSET
      have hKb : K + 2 ≤ 1099511627776 := by omega
      have HKN : Hid (K + 2 = k0 + 2 * (i + 1)) := by show _ = _; omega
      simp only [hK]
      clear hL HMF hK
      obtain ⟨us, F, hx, hc, _, _⟩ := hO.open i hLi
      obtain ⟨rfl, _⟩ := flat_ch.own.1 hx
      have c0 : wr.cell? ⟨g, i * 2, none⟩ = some (.int .i64 L[i].1) := hc 0 _ rfl
      have f0 := hO.frozen (i * 2)
      have wK : (Lit.int .i64 (K : Int)).wf = true := WalkArith.wf_i64 (by omega)
      obtain ⟨q1, hO1, _, hg1⟩ := hO.cell1 i hLi 0 (by decide) (.int .i64 (K : Int)) ((K : Int), L[i].2) (fun vs F hv => ch_set0 wK hv)
      have e4 : i * chR.size + 0 = i * 2 := rfl
      rw [e4] at hO1 hg1
      have hFr1 := hFr.grown hg1 (fun k e => by cases e; exact .inl (by simp))
      have hL1 : i < (L.set i ((K : Int), L[i].2)).length := by simpa using hLi
      obtain ⟨us1, G, hx1, hc1, _, _⟩ := hO1.open i hL1
      obtain ⟨rfl, _⟩ := flat_ch.own.1 hx1
      have c1 : (wr.setCell ⟨g, i * 2, none⟩ (.int .i64 (K : Int))).cell? ⟨g, i * 2 + 1, none⟩ = some (.bool ((L.set i ((K : Int), L[i].2))[i]).2) := hc1 1 _ rfl
      have f1 := hO1.frozen (i * 2 + 1)
      obtain ⟨q2, hO2, _, hg2⟩ := hO1.cell1 i hL1 1 (by decide) (.bool (decide ((K + 1) % 3 = 0))) ((K : Int), decide ((K + 1) % 3 = 0)) (fun vs F hv => by rw [set_at hLi] at hv; exact ch_set1 hv)
      have e42 : i * chR.size + 1 = i * 2 + 1 := rfl
      rw [e42] at hO2 hg2
      rw [List.set_set, HSET.out] at hO2
      have hFr2 := hFr1.grown hg2 (fun k e => by cases e; exact .inl (by simp))
      have HO2 := Hid.mk' hO2
      have HFR := Hid.mk' hFr2
      have HM := Hid.mk' (mod3 K)
      have HKI : Hid (((K : Nat) : Int) + 1 = ((K + 1 : Nat) : Int)) := by show _ = _; omega
      generalize L[i].1 = z0 at *
      generalize ((L.set i ((K : Int), L[i].2))[i]).2 = z1 at *
      clear hO hO1 hO2 hx hx1 hc hc1 hFr2 hFr1 hg1 hg2
      generalize hMM : decide ((K + 1) % 3 = 0) = mm at *
      have hmm : ((((K : Nat) : Int) + 1) % 3 == 0) = mm := by rw [HKI.out, HM.out]
      clear hMM HM
      cases mm
      all_goals
        go_wp2_with fail
        go_roundw
        case rel => exact ⟨i + 1, q2, by omega, by go_num, congrArg (Value.int .i64) (by have := HKN.out; omega), HO2.out, HFR.out⟩
        case measure => simp [intOf]; omega
    · have he : i = l.length := by omega
      subst he
      rw [mapTo_all] at hO
      go_wp2_with fail
      go_ret
      exact ⟨rfl, q', hO, hFr⟩
set_option maxRecDepth 100000 in
theorem markChs_nil (k0 : Nat) (w : World) : Calls Try.prog 14 #[.slice none 0 0, .int .i64 (k0 : Int)] w fun e w' => e = .returned (.int .i64 (k0 : Int)) ∧ w' = w := by
  go_enter Try.func14, Try.ntmps14
  go_wp2
  go_loopw [5, 1] (fun i x wr => i = .int .i64 0 ∧ x = .int .i64 (k0 : Int) ∧ wr = w) (fun _ _ _ => 0)
  case atStart => exact ⟨rfl, rfl, rfl⟩
  case round =>
    obtain ⟨rfl, rfl, rfl⟩ := hrel
    go_wp2
    go_ret
    exact ⟨rfl, rfl⟩
theorem markChs_R (a : Option Addr) (n c : Nat) (l : List Ch) (F : List Nat) (k0 : Nat) (w : World) (h : logR.own w [.slice a n c] l F) (hk : k0 + 2 * l.length ≤ 1099511627776) :
    Calls Try.prog 14 #[.slice a n c, .int .i64 (k0 : Int)] w fun e w' => e = .returned (.int .i64 ((k0 + 2 * l.length : Nat) : Int)) ∧ logR.own w' [.slice a n c] (mLog k0 l) F ∧ lay.Frame F w w' := by
  obtain ⟨⟨q, hO⟩, rfl⟩ := logs_own.1 h
  rcases hO.shape with ⟨e, rfl, rfl⟩ | ⟨g, cap, e, _⟩
  · cases e
    refine (markChs_nil k0 w).mono ?_
    rintro e w' ⟨rfl, rfl⟩
    exact ⟨by simp, own_nil _ _ _, lay.Frame.refl _ _⟩
  · simp only [Value.slice.injEq] at e
    obtain ⟨rfl, rfl, rfl⟩ := e
    refine (markChoiceS g l.length c l q k0 w hO hk).mono ?_
    rintro e w' ⟨rfl, q', hO', hf⟩
    exact ⟨rfl, logs_own.2 ⟨⟨q', hO'⟩, rfl⟩, by simpa [Value.ownBlock] using hf⟩
set_option maxRecDepth 100000 in
set_option maxHeartbeats 2000000 in
theorem heldChoiceS (a : Option Addr) (n cap : Nat) (l : List Ch) (k0 : Nat) (w : World) (h : SlG chR w a n (mLog k0 l)) (hk : k0 + 2 * l.length ≤ 1099511627776) :
    Calls Try.prog 16 #[.slice a n cap, .int .i64 (k0 : Int)] w fun e w' => e = .returned (.int .i64 ((k0 + 2 * l.length : Nat) : Int)) ∧ w' = w := by
  have hnl : n = l.length := by have := h.1; unfold mLog at this; rw [markRow_length] at this; omega
  subst hnl
  have hlm := h.2.1
  unfold maxLen at hlm
  have HCT : Hid (∀ i, i ≤ l.length → cntTo (fun _ => 2) l i = 2 * i) := fun i hi => by
    unfold cntTo
    have : ((l.take i).map fun _ => 2) = List.replicate i 2 := by
      refine List.ext_getElem (by simp; omega) fun j h1 h2 => by simp
    rw [this]; simp; omega
  go_enter Try.func16, Try.ntmps16
  go_wp2
  go_loop [5, 1] (fun iv kv => ∃ i : Nat, i ≤ l.length ∧ iv = .int .i64 (i : Int) ∧ kv = .int .i64 ((k0 + 2 * i : Nat) : Int)) (fun iv _ => l.length - (intOf iv).toNat)
  case atStart => exact ⟨0, Nat.zero_le _, rfl, rfl⟩
  case round =>
    obtain ⟨i, hi, rfl, rfl⟩ := hrel
    by_cases hlt : i < l.length
    · have hii : (i : Int) < (l.length : Int) := by omega
      obtain ⟨b, off, e⟩ := slg_some h (by omega)
      subst e
      have hlt2 : i < (mLog k0 l).length := by unfold mLog; rw [markRow_length]; exact hlt
      obtain ⟨c0, c1⟩ := ch_at h i hlt2
      have hat := markRow_at mCh (fun _ => 2) k0 l i hlt
      obtain ⟨K, hK⟩ : ∃ K, k0 + 2 * i = K := ⟨_, rfl⟩
      have hat2 : (mLog k0 l)[i] = ((K : Int), decide ((K + 1) % 3 = 0)) := hat.trans (by unfold mCh; rw [HCT.out i hi, hK])
      simp only [hat2] at c0 c1
      have hKb : K + 2 ≤ 1099511627776 := by omega
      have HKN : Hid (K + 2 = k0 + 2 * (i + 1)) := by show _ = _; omega
      simp only [hK]
      have HM := Hid.mk' (mod3 K)
      have HKI : Hid (((K : Nat) : Int) + 1 = ((K + 1 : Nat) : Int)) := by show _ = _; omega
      clear hat hat2 hK
      generalize hMM : decide ((K + 1) % 3 = 0) = mm at *
      have hmm : ((((K : Nat) : Int) + 1) % 3 == 0) = mm := by rw [HKI.out, HM.out]
      have hne : ((K : Int) != (K : Int)) = false := by simp
      clear hMM HM
      cases mm
      all_goals
        go_wp2
        go_round
        case rel => exact ⟨i + 1, by omega, by go_num, congrArg (Value.int .i64) (by have := HKN.out; omega)⟩
        case measure => simp [intOf]; omega
    · have he : i = l.length := by omega
      subst he
      go_wp2
      go_ret
      exact ⟨rfl, rfl⟩
theorem cntC_eq (c : Co) : cntC c = cntAll cntJ c.2.2.2.1 + 2 * c.2.2.2.2.1.length := rfl
set_option maxRecDepth 100000 in
set_option maxHeartbeats 2000000 in
theorem markCoord (ja : Option Addr) (jn jc : Nat) (la : Option Addr) (ln lc : Nat) (c : Co) (F : List Nat) (k0 : Nat) (w : World) (h : coordR.own w [.int .i64 c.1, .int .i64 c.2.1, .int .i64 c.2.2.1, .slice ja jn jc, .slice la ln lc, .int .i64 c.2.2.2.2.2] c F) (hk1 : 1 ≤ k0) (hk : k0 + cntC c ≤ 1099511627776) :
    Calls Try.prog 7 #[coV c.1 c.2.1 c.2.2.1 c.2.2.2.2.2 ja jn jc la ln lc, .int .i64 (k0 : Int)] w fun e w' => e = .returned (.int .i64 ((k0 + cntC c : Nat) : Int)) ∧ coordR.own w' [.int .i64 c.1, .int .i64 c.2.1, .int .i64 c.2.2.1, .slice ja jn jc, .slice la ln lc, .int .i64 c.2.2.2.2.2] (mCo k0 c) F ∧ lay.Frame F w w' := by
  rw [cntC_eq] at hk ⊢
  obtain ⟨x, y, F1, F2, e, hwf, hj, hl, rfl, hnd⟩ := coord_own.1 h
  simp only [List.cons.injEq, and_true, true_and] at e
  obtain ⟨rfl, rfl⟩ := e
  obtain ⟨W, hW⟩ : ∃ W, w.alloc (.cells #[.int .i64 c.1, .int .i64 c.2.1, .int .i64 c.2.2.1, .slice ja jn jc, .slice la ln lc, .int .i64 c.2.2.2.2.2] 25) = W := ⟨_, rfl⟩
  have hb : Below w.heap.size w W := by rw [← hW]; exact below_make
  have hA : BoxIn w.heap.size 25 [] [.int .i64 c.1, .int .i64 c.2.1, .int .i64 c.2.2.1, .slice ja jn jc, .slice la ln lc, .int .i64 c.2.2.2.2.2] [] W := by rw [← hW]; exact boxIn_new w _ _
  have hFlt := coordR.ownLt h
  have HM1 := Hid.mk' (markJobs_R ja jn jc c.2.2.2.1 F1 k0 W (jobsR.ownBelow hj hb) hk1 (by omega))
  have HM2 := Hid.mk' (fun wx (hx : logR.own wx [.slice la ln lc] c.2.2.2.2.1 F2) => markChs_R la ln lc c.2.2.2.2.1 F2 (k0 + cntAll cntJ c.2.2.2.1) wx hx (by omega))
  have hlW := logR.ownBelow hl hb
  have HW := Hid.mk' hW
  obtain ⟨a0, a1, a2, a3, a4, a5⟩ := cells6 hA
  rw [← hW] at a0 a1 a2 a3 a4 a5
  clear hW h hj hl
  go_enter Try.func7, Try.ntmps7
  go_wp2_with fail
  rw [HW.out]
  refine HM1.out.mono ?_
  rintro e w1 ⟨rfl, hj1, hf1⟩
  have hA1 := hA.frame hf1 (fun e => by have := hFlt _ (List.mem_append.2 (.inl e)); omega)
  have hl1 := logR.ownFrame hlW hf1 (fun k hk hk2 => (nodup_parts hnd).2.2 k hk2 hk)
  have HM3 := Hid.mk' (HM2.out w1 hl1)
  clear a0 a1 a2 a3 a4 a5 HM1 HM2
  obtain ⟨a0, a1, a2, a3, a4, a5⟩ := cells6 hA1
  go_wp2_with fail
  refine HM3.out.mono ?_
  rintro e w2 ⟨rfl, hl2, hf2⟩
  have hj2 := jobsR.ownFrame hj1 hf2 (fun k hk hk2 => (nodup_parts hnd).2.2 k hk hk2)
  have hFr : lay.Frame (F1 ++ F2) w w2 := ((lay.Frame.of_below hb).trans (hf1.mono (G' := F1 ++ F2) fun k hk => List.mem_append.2 (.inl hk)) (Fresh.refl _ _)).trans (hf2.mono (G' := F1 ++ F2) fun k hk => List.mem_append.2 (.inr hk)) (Fresh.refl _ _)
  clear a0 a1 a2 a3 a4 a5
  go_wp2_with fail
  go_ret
  exact ⟨congrArg (fun z => Ending.returned (.int .i64 z)) (by omega), (coord_own (c := mCo k0 c)).2 ⟨_, _, F1, F2, rfl, ⟨hwf.n, hwf.life, hwf.next, hwf.sure⟩, hj2, hl2, rfl, hnd⟩, hFr⟩
set_option maxRecDepth 100000 in
set_option maxHeartbeats 2000000 in
theorem heldCoord (ja : Option Addr) (jn jc : Nat) (la : Option Addr) (ln lc : Nat) (c : Co) (k0 : Nat) (w : World) (h : SeeCo w ja jn jc la ln lc (mCo k0 c)) (hk1 : 1 ≤ k0) (hk : k0 + cntC c ≤ 1099511627776) :
    Calls Try.prog 8 #[coV c.1 c.2.1 c.2.2.1 c.2.2.2.2.2 ja jn jc la ln lc, .int .i64 (k0 : Int)] w fun e w' => e = .returned (.int .i64 ((k0 + cntC c : Nat) : Int)) ∧ Below w.heap.size w w' := by
  rw [cntC_eq] at hk ⊢
  obtain ⟨W, hW⟩ : ∃ W, w.alloc (.cells #[.int .i64 c.1, .int .i64 c.2.1, .int .i64 c.2.2.1, .slice ja jn jc, .slice la ln lc, .int .i64 c.2.2.2.2.2] 25) = W := ⟨_, rfl⟩
  have hb : Below w.heap.size w W := by rw [← hW]; exact below_make
  have hA : BoxIn w.heap.size 25 [] [.int .i64 c.1, .int .i64 c.2.1, .int .i64 c.2.2.1, .slice ja jn jc, .slice la ln lc, .int .i64 c.2.2.2.2.2] [] W := by rw [← hW]; exact boxIn_new w _ _
  have HM1 := Hid.mk' (heldJobS ja jn jc c.2.2.2.1 k0 W (h.jobs.below hb) hk1 (by omega))
  have HM2 := Hid.mk' (fun wx (hx : Below W.heap.size W wx) => heldChoiceS la ln lc c.2.2.2.2.1 (k0 + cntAll cntJ c.2.2.2.1) wx ((h.log.below hb).below hx) (by omega))
  have HW := Hid.mk' hW
  obtain ⟨a0, a1, a2, a3, a4, a5⟩ := cells6 hA
  rw [← hW] at a0 a1 a2 a3 a4 a5
  clear hW h
  generalize hQ : cntAll cntJ c.2.2.2.1 = Q at *
  have hn1 : ¬ ((k0 + Q : Nat) : Int) < 0 := by omega
  have hn2 : ¬ ((k0 + Q + 2 * c.2.2.2.2.1.length : Nat) : Int) < 0 := by omega
  go_enter Try.func8, Try.ntmps8
  go_wp2_with fail
  rw [HW.out]
  refine HM1.out.mono ?_
  rintro e w1 ⟨rfl, hb1⟩
  have HM3 := Hid.mk' (HM2.out w1 hb1)
  clear a0 a1 a2 a3 a4 a5 HM1 HM2
  obtain ⟨a0, a1, a2, a3, a4, a5⟩ := cells6 (hA.below hb1)
  go_wp2_with fail
  refine HM3.out.mono ?_
  rintro e w2 ⟨rfl, hw2⟩
  replace hw2 := hw2.symm
  subst hw2
  clear a0 a1 a2 a3 a4 a5
  go_wp2_with fail
  go_ret
  exact ⟨congrArg (fun z => Ending.returned (.int .i64 z)) (by omega), hb.trans (hb1.mono hb.size)⟩
theorem see_mco {w : World} {c : Co} {k : Nat} {ja la : Option Addr} {jn jc ln lc : Nat} (h : coordR.see w [.int .i64 c.1, .int .i64 c.2.1, .int .i64 c.2.2.1, .slice ja jn jc, .slice la ln lc, .int .i64 c.2.2.2.2.2] (mCo k c)) : SeeCo w ja jn jc la ln lc (mCo k c) := see_co (c := mCo k c) h
end Go.Proofs.Ytmpggohilmngpaa.cos
