/- The laws' marks on rows of words. How many marks the words of all jobs take. -/
import Derived.Test.YtgiibadbjgdjcaaGreatBund13f
import Derived.Test.YtgiibadbjgdjcaaGreatBund13d
namespace Go.Proofs.YtgiibadbjgdjcaaGreat.cos
open Go Go.RowKit Go.Proofs.YtgiibadbjgdjcaaGreat.base Go.Proofs.YtgiibadbjgdjcaaGreat.pairs Go.Proofs.YtgiibadbjgdjcaaGreat.ords Go.Proofs.YtgiibadbjgdjcaaGreat.lay Go.Proofs.YtgiibadbjgdjcaaGreat.wds
set_option linter.unusedVariables false
set_option linter.unusedSimpArgs false

section
variable {w : World} {vs : List Value} {x : Wd} {F : List Nat} {k : Int}
theorem word_set0 (hk : (Lit.int .i64 k).wf = true) (h : wordR.own w vs x F) : wordR.own w (vs.set 0 (.int .i64 k)) (k, x.2.1, x.2.2.1, x.2.2.2.1, x.2.2.2.2) F := by
  obtain ⟨v, rfl, k1, k2, k3, h4⟩ := word_own.1 h
  exact word_own.2 ⟨v, rfl, hk, k2, k3, h4⟩
theorem word_set1 (hk : (Lit.int .i64 k).wf = true) (h : wordR.own w vs x F) : wordR.own w (vs.set 1 (.int .i64 k)) (x.1, k, x.2.2.1, x.2.2.2.1, x.2.2.2.2) F := by
  obtain ⟨v, rfl, k1, k2, k3, h4⟩ := word_own.1 h
  exact word_own.2 ⟨v, rfl, k1, hk, k3, h4⟩
theorem word_set2 (hk : (Lit.int .i64 k).wf = true) (h : wordR.own w vs x F) : wordR.own w (vs.set 2 (.int .i64 k)) (x.1, x.2.1, k, x.2.2.2.1, x.2.2.2.2) F := by
  obtain ⟨v, rfl, k1, k2, k3, h4⟩ := word_own.1 h
  exact word_own.2 ⟨v, rfl, k1, k2, hk, h4⟩
theorem word_set4 {y : Bool} (h : wordR.own w vs x F) : wordR.own w (vs.set 4 (.bool y)) (x.1, x.2.1, x.2.2.1, x.2.2.2.1, y) F := by
  obtain ⟨v, rfl, k1, k2, k3, h4⟩ := word_own.1 h
  exact word_own.2 ⟨v, rfl, k1, k2, k3, h4⟩
theorem word_parts (h : wordR.own w vs x F) : ∃ oa ol oc, vs = [.int .i64 x.1, .int .i64 x.2.1, .int .i64 x.2.2.1, .slice oa ol oc, .bool x.2.2.2.2] ∧ (Lit.int .i64 x.1).wf = true ∧ (Lit.int .i64 x.2.1).wf = true ∧ (Lit.int .i64 x.2.2.1).wf = true ∧ opsR.own w [.slice oa ol oc] x.2.2.2.1 F := by
  obtain ⟨v, e, k1, k2, k3, h4⟩ := word_own.1 h
  obtain ⟨oa, ol, oc, e1⟩ := slice_shape h4
  subst e1
  exact ⟨oa, ol, oc, e, k1, k2, k3, h4⟩
end
set_option maxRecDepth 100000 in
set_option maxHeartbeats 4000000 in
theorem markWordS (g n cap : Nat) (l : List Wd) (q : Parts) (k0 : Nat) (w : World) (h : OwnG 112 wordR w (.slice (some ⟨g, 0, none⟩) n cap) l q) (hk1 : 1 ≤ k0) (hk : k0 + cntAll cntW l ≤ 1099511627776) :
    Calls Tryz.prog 31 #[.slice (some ⟨g, 0, none⟩) n cap, .int .i64 (k0 : Int)] w fun e w' => e = .returned (.int .i64 ((k0 + cntAll cntW l : Nat) : Int)) ∧ ∃ q', OwnG 112 wordR w' (.slice (some ⟨g, 0, none⟩) n cap) (markRow mW cntW k0 l) q' ∧ blocksOf q' = blocksOf q ∧ lay.Frame (g :: blocksOf q) w w' := by
  have hnl := h.nlen
  subst hnl
  have hlm : l.length ≤ maxLen := by rcases h.shape with ⟨e, _⟩ | ⟨_, _, _, h1, h2⟩; cases e; omega
  unfold maxLen at hlm
  go_enter Tryz.func31, Tryz.ntmps31
  go_wp2_with fail
  go_loopw [5, 1] (fun iv kv wr => ∃ (i : Nat) (q' : Parts), i ≤ l.length ∧ iv = .int .i64 (i : Int) ∧ kv = .int .i64 ((k0 + cntTo cntW l i : Nat) : Int) ∧ OwnG 112 wordR wr (.slice (some ⟨g, 0, none⟩) l.length cap) (mapTo (markF mW cntW k0 l) l i) q' ∧ blocksOf q' = blocksOf q ∧ lay.Frame (g :: blocksOf q) w wr) (fun iv _ _ => l.length - (intOf iv).toNat)
  case atStart => exact ⟨0, q, Nat.zero_le _, rfl, by rw [cntTo_zero]; rfl, by rw [mapTo_zero]; exact h, rfl, lay.Frame.refl _ _⟩
  case round =>
    obtain ⟨i, q', hi, rfl, rfl, hO, hq, hFr⟩ := hrel
    by_cases hlt : i < l.length
    · have hii : (i : Int) < (l.length : Int) := by omega
      obtain ⟨L, hL⟩ : ∃ L, mapTo (markF mW cntW k0 l) l i = L := ⟨_, rfl⟩
      have HLL : Hid (L.length = l.length) := by show _ = _; rw [← hL, mapTo_length]
      have hLi : i < L.length := by rw [HLL.out]; exact hlt
      have HLat : Hid (L[i] = l[i]) := by show _ = _; have := mapTo_at (markF mW cntW k0 l) i hlt; simp only [hL] at this; exact this
      have HSET : Hid (L.set i (markF mW cntW k0 l i l[i]) = mapTo (markF mW cntW k0 l) l (i + 1)) := by show _ = _; rw [← hL]; exact mapTo_set _ i hlt
      rw [hL] at hO
      have HCS := Hid.mk' (cntTo_succ cntW l i hlt)
      have hcl := cntTo_le cntW l (i + 1)
      obtain ⟨K, hK⟩ : ∃ K, k0 + cntTo cntW l i = K := ⟨_, rfl⟩
      have HMF : Hid (markF mW cntW k0 l i l[i] = mW K l[i]) := by show _ = _; unfold markF; rw [hK]
      rw [HCS.out] at hcl
      have hcj : K + cntW l[i] ≤ k0 + cntAll cntW l := by omega
      have HKN : Hid (K + cntW l[i] = k0 + cntTo cntW l (i + 1)) := by show _ = _; rw [HCS.out]; omega
      simp only [hK]
      have hK1 : 1 ≤ K := by omega
      clear hL hcl hK
      rw [HMF.out] at HSET
      have HJ : Hid (mW K l[i] = ((K : Int), ((K + 1 : Nat) : Int), ((K + 2 : Nat) : Int), marksO (K + 3) l[i].2.2.2.1.length, decide ((K + 3 + 3 * l[i].2.2.2.1.length) % 3 = 0))) := rfl
      have hcn : cntW l[i] = 4 + 3 * l[i].2.2.2.1.length := rfl
      generalize l[i] = x at *
      obtain ⟨kd, s, tx, ops, y⟩ := x
      simp only [] at HJ hcn
      obtain ⟨tot, htot⟩ : ∃ t, cntAll cntW l = t := ⟨_, rfl⟩
      rw [htot] at hcj hk
      have hKb : K + 4 + 3 * ops.length ≤ 1099511627776 := by omega
      have e1 : ((K + 1 : Nat) : Int) = (K : Int) + 1 := by omega
      have e2 : ((K + 2 : Nat) : Int) = (K : Int) + 1 + 1 := by omega
      rw [e1, e2] at HJ
      clear e1 e2
      have HKI : Hid (((K : Nat) : Int) + 1 + 1 + 1 = ((K + 3 : Nat) : Int)) := by show _ = _; omega
      have w0 : (Lit.int .i64 (K : Int)).wf = true := WalkArith.wf_i64 (by omega)
      have w1 : (Lit.int .i64 ((K : Int) + 1)).wf = true := WalkArith.wf_i64 (by omega)
      have w2 : (Lit.int .i64 ((K : Int) + 1 + 1)).wf = true := WalkArith.wf_i64 (by omega)
      -- three numbers
      obtain ⟨us, F, hx, hc, _, _⟩ := hO.open i hLi
      rw [HLat.out] at hx
      obtain ⟨oa, ol, oc, rfl, _⟩ := word_parts hx
      have c0 := hc 0 _ rfl
      have f0 := hO.frozen (i * 5)
      obtain ⟨q1, hO1, hq1, hg1⟩ := hO.cell1 i hLi 0 (by decide) (.int .i64 (K : Int)) ((K : Int), s, tx, ops, y) (fun vs F hv => by rw [HLat.out] at hv; exact word_set0 w0 hv)
      rw [show i * wordR.size + 0 = i * 5 from rfl] at hO1 hg1 c0
      have hFr1 := hFr.grown hg1 (fun k e => by cases e; exact .inl (by simp))
      have hL1 : i < (L.set i ((K : Int), s, tx, ops, y)).length := by simpa using hLi
      obtain ⟨us1, F1, hx1, hc1, _, _⟩ := hO1.open i hL1
      rw [set_at hLi] at hx1
      obtain ⟨oa1, ol1, oc1, rfl, _⟩ := word_parts hx1
      have c1 := hc1 1 _ rfl
      have f1 := hO1.frozen (i * 5 + 1)
      obtain ⟨q2, hO2, hq2, hg2⟩ := hO1.cell1 i hL1 1 (by decide) (.int .i64 ((K : Int) + 1)) ((K : Int), (K : Int) + 1, tx, ops, y) (fun vs F hv => by rw [set_at hLi] at hv; exact word_set1 w1 hv)
      rw [show i * wordR.size + 1 = i * 5 + 1 from rfl] at hO2 hg2 c1
      rw [List.set_set] at hO2
      have hFr2 := hFr1.grown hg2 (fun k e => by cases e; exact .inl (by simp))
      have hL2 : i < (L.set i ((K : Int), (K : Int) + 1, tx, ops, y)).length := by simpa using hLi
      obtain ⟨us2, F2, hx2, hc2, _, _⟩ := hO2.open i hL2
      rw [set_at hLi] at hx2
      obtain ⟨oa2, ol2, oc2, rfl, _⟩ := word_parts hx2
      have c2 := hc2 2 _ rfl
      have f2 := hO2.frozen (i * 5 + 2)
      obtain ⟨q3, hO3, hq3, hg3⟩ := hO2.cell1 i hL2 2 (by decide) (.int .i64 ((K : Int) + 1 + 1)) ((K : Int), (K : Int) + 1, (K : Int) + 1 + 1, ops, y) (fun vs F hv => by rw [set_at hLi] at hv; exact word_set2 w2 hv)
      rw [show i * wordR.size + 2 = i * 5 + 2 from rfl] at hO3 hg3 c2
      rw [List.set_set] at hO3
      have hFr3 := hFr2.grown hg3 (fun k e => by cases e; exact .inl (by simp))
      have hL3 : i < (L.set i ((K : Int), (K : Int) + 1, (K : Int) + 1 + 1, ops, y)).length := by simpa using hLi
      obtain ⟨us3, G, hx3, hc3, hG3, bk3⟩ := hO3.open i hL3
      rw [set_at hLi] at hx3
      obtain ⟨oa3, ol3, oc3, rfl, k1a, k2a, k3a, hop3⟩ := word_parts hx3
      have d3 := hc3 3 _ rfl
      rw [show i * wordR.size + 3 = i * 5 + 3 from rfl] at d3
      have HMO := Hid.mk' (markOps_R oa3 ol3 oc3 ops G (K + 3) _ hop3 (by omega) (by omega))
      have HBK := Hid.mk' bk3
      have HGB := Hid.mk' hG3
      clear hO hx hc hO1 hx1 hc1 hO2 hx2 hc2 hO3 hx3 hc3 bk3 hop3 hG3 hg1 hg2 hg3 hFr1 hFr2
      go_wp2_with fail
      rw [HKI.out]
      refine HMO.out.mono ?_
      rintro e w5 ⟨rfl, hop5, hf5⟩
      have hO5 := HBK.out w5 ((K : Int), (K : Int) + 1, (K : Int) + 1 + 1, marksO (K + 3) ops.length, y) G hf5 (fun k hk => hk) (word_own.2 ⟨_, rfl, k1a, k2a, k3a, hop5⟩)
      rw [List.set_set] at hO5
      have hFr5 := hFr3.trans hf5 (fun k hk => .inl (List.mem_cons_of_mem _ (by rw [← hq, ← hq1, ← hq2, ← hq3]; exact HGB.out k hk)))
      have hL5 : i < (L.set i ((K : Int), (K : Int) + 1, (K : Int) + 1 + 1, marksO (K + 3) ops.length, y)).length := by simpa using hLi
      obtain ⟨us5, F5, hx5, hc5, _, _⟩ := hO5.open i hL5
      rw [set_at hLi] at hx5
      obtain ⟨oa5, ol5, oc5, rfl, _⟩ := word_parts hx5
      have c4 := hc5 4 _ rfl
      rw [show i * wordR.size + 4 = i * 5 + 4 from rfl] at c4
      have f4 := hO5.frozen (i * 5 + 4)
      obtain ⟨q6, hO6, hq6, hg6⟩ := hO5.cell1 i hL5 4 (by decide) (.bool (decide ((K + 3 + 3 * ops.length) % 3 = 0))) ((K : Int), (K : Int) + 1, (K : Int) + 1 + 1, marksO (K + 3) ops.length, decide ((K + 3 + 3 * ops.length) % 3 = 0)) (fun vs F hv => by rw [set_at hLi] at hv; exact word_set4 hv)
      rw [show i * wordR.size + 4 = i * 5 + 4 from rfl] at hO6 hg6
      rw [List.set_set, ← HJ.out, HSET.out] at hO6
      have hFr6 := hFr5.grown hg6 (fun k e => by cases e; exact .inl (by simp))
      have HO6 := Hid.mk' hO6
      have HFR := Hid.mk' hFr6
      have HQ6 : Hid (blocksOf q6 = blocksOf q) := hq6.trans (hq3.trans (hq2.trans (hq1.trans hq)))
      have HK6 : Hid (((K + 3 + 3 * ops.length : Nat) : Int) + 1 = ((k0 + cntTo cntW l (i + 1) : Nat) : Int)) := by show _ = _; rw [← HKN.out, hcn]; omega
      have HM := Hid.mk' (mod3W (K + 3 + 3 * ops.length))
      have hKKb : ((K + 3 + 3 * ops.length : Nat) : Int) ≤ 1099511627776 ∧ 0 ≤ ((K + 3 + 3 * ops.length : Nat) : Int) := by omega
      clear hO5 hO6 hx5 hc5 hop5 hf5 hFr3 hFr5 hFr6 hg6 HBK HMO c0 c1 c2 d3 f0 f1 f2
      generalize hMM : decide ((K + 3 + 3 * ops.length) % 3 = 0) = mm at *
      have hmm : (((K + 3 + 3 * ops.length : Nat) : Int) % 3 == 0) = mm := HM.out
      clear HM hMM
      generalize ((K + 3 + 3 * ops.length : Nat) : Int) = KK at *
      cases mm
      all_goals
        go_wp2_with fail
        go_roundw
        case rel => exact ⟨i + 1, q6, by omega, by go_num, congrArg (Value.int .i64) HK6.out, HO6.out, HQ6.out, HFR.out⟩
        case measure => simp [intOf]; omega
    · have he : i = l.length := by omega
      subst he
      rw [mapTo_all] at hO
      rw [cntTo_all]
      go_wp2_with fail
      go_ret
      exact ⟨rfl, q', hO, hq, hFr⟩
end Go.Proofs.YtgiibadbjgdjcaaGreat.cos

namespace Go.Proofs.YtgiibadbjgdjcaaGreat.cos
open Go Go.RowKit Go.Proofs.YtgiibadbjgdjcaaGreat.base Go.Proofs.YtgiibadbjgdjcaaGreat.pairs Go.Proofs.YtgiibadbjgdjcaaGreat.ords Go.Proofs.YtgiibadbjgdjcaaGreat.lay Go.Proofs.YtgiibadbjgdjcaaGreat.wds
set_option linter.unusedVariables false

theorem opsFor_len (s n : Int) (l : List Od) : (opsFor s n l).length ≤ l.length := List.length_filter_le _ _
theorem holds_small (n tx : Int) (ops : List Od) (yes l : List Int) (h : ops.length ≤ 8) : ∀ x ∈ holdsW n tx ops yes l, x.2.2.2.1.length ≤ 8 := by
  intro x hx
  unfold holdsW at hx
  obtain ⟨s, _, rfl⟩ := List.mem_map.1 hx
  exact Nat.le_trans (opsFor_len _ _ _) h
theorem tells_small (tx : Int) (y : Bool) (l : List Int) : ∀ x ∈ tellsW tx y l, x.2.2.2.1.length ≤ 8 := by
  intro x hx
  unfold tellsW at hx
  obtain ⟨s, _, rfl⟩ := List.mem_map.1 hx
  exact Nat.zero_le _
theorem jobW_small (n life sure : Int) (log : List Ch) (j : Jb) (h : j.2.1.length ≤ 8) : ∀ x ∈ jobW n life sure log j, x.2.2.2.1.length ≤ 8 := by
  unfold jobW
  split
  · exact holds_small _ _ _ _ _ h
  · split
    · exact tells_small _ _ _
    · intro x hx; exact absurd hx List.not_mem_nil
theorem cnt_small : ∀ (l : List Wd), (∀ x ∈ l, x.2.2.2.1.length ≤ 8) → cntAll cntW l ≤ 28 * l.length := by
  intro l
  unfold cntAll
  induction l with
  | nil => intro _; simp
  | cons x l ih =>
    intro h
    have h1 := ih (fun y hy => h y (List.mem_cons_of_mem _ hy))
    have h2 := h x List.mem_cons_self
    have h3 : cntW x ≤ 28 := by unfold cntW; omega
    simp only [List.map_cons, List.sum_cons, List.length_cons] at h1 ⊢
    omega
theorem tell_small {c : Co} (hbd : BoundCo c) : cntAll cntW (tellR c) ≤ 268435456 := by
  unfold tellR
  split
  · rename_i hok
    have hj : ∀ j ∈ c.2.2.2.1, j.2.1.length ≤ 8 := fun j hj => (opsOk_len (coordOk_jobs hok j hj).1).2
    have h1 := wordsOf_len c.1 c.2.1 c.2.2.2.2.2 c.2.2.2.2.1 c.2.2.2.1 hj
    have h2 := hbd.jobs
    have h3 := cnt_small (wordsOf c.1 c.2.1 c.2.2.2.2.2 c.2.2.2.2.1 c.2.2.2.1) (fun x hx => by
      unfold wordsOf at hx
      obtain ⟨j, hm, hx⟩ := List.mem_flatMap.1 hx
      exact jobW_small _ _ _ _ j (hj j hm) x hx)
    omega
  · exact Nat.zero_le _
end Go.Proofs.YtgiibadbjgdjcaaGreat.cos
