/- A row of structs appended to a row of the call's own. No function of the program is named here. The specification's words of all jobs. -/
import Derived.Test.YtgiibadbjgdjcaaBund12be
import Derived.Test.YtgiibadbjgdjcaaBund13c
import Derived.Test.YtgiibadbjgdjcaaBund12at
namespace Go.Proofs.Ytgiibadbjgdjcaa.lay
open Go Go.RowKit Go.Proofs.Ytgiibadbjgdjcaa.base
set_option linter.unusedVariables false
set_option linter.unusedSimpArgs false

theorem OwnG.join {α : Type} {ty : TypeId} {R : Rd α} {w w7 : World} {v v2 : Value} {l l2 : List α} {q q2 : Parts} {g cap H : Nat} (h : OwnG ty R w v l q) (h2 : OwnG ty R w v2 l2 q2) (hd : ∀ k ∈ blocksOf q2, k ∉ v.ownBlock.toList ++ blocksOf q)
    (hown : w7.ownsRow 0 ty R.size (.slice (some ⟨g, 0, none⟩) (l.length + l2.length) cap) (l.length + l2.length) (cellsOf q ++ cellsOf q2)) (hgrow : w.grownBy w7 v.ownBlock) (hat : v.ownBlock = some g ∨ g = H) (hH : w.heap.size = H) :
    OwnG ty R w7 (.slice (some ⟨g, 0, none⟩) (l.length + l2.length) cap) (l ++ l2) (q ++ q2) := by
  have hlen := h.len
  have hlen2 := h2.len
  obtain ⟨n1, n2, n3⟩ := nodup_parts h.nodup
  obtain ⟨m1, m2, m3⟩ := nodup_parts h2.nodup
  have hg1 : ∀ k ∈ blocksOf q, some k ≠ v.ownBlock := fun k hk e => n3 k (by rw [← e]; simp) hk
  have hg2 : ∀ k ∈ blocksOf q2, some k ≠ v.ownBlock := fun k hk e => hd k hk (List.mem_append.2 (.inl (by rw [← e]; simp)))
  refine ⟨by simp [hlen, hlen2], ?_, fun i hi => ?_, ?_⟩
  · rw [cellsOf_append, List.length_append]
    exact hown
  · by_cases e : i < l.length
    · simp only [List.getElem_append_left e, List.getElem_append_left (show i < q.length by omega)]
      exact R.ownGrown (h.each i e) hgrow (fun k hk => hg1 k (List.mem_flatMap.2 ⟨_, List.getElem_mem _, hk⟩))
    · have hi2 : i - l.length < l2.length := by simp at hi; omega
      have e1 : (l ++ l2)[i] = l2[i - l.length] := List.getElem_append_right (by omega)
      have e2 : (q ++ q2)[i]'(by simp; omega) = q2[i - l.length]'(by omega) := by
        rw [List.getElem_append_right (by omega)]
        simp only [hlen]
      rw [e1]
      simp only [e2]
      exact R.ownGrown (h2.each _ hi2) hgrow (fun k hk => hg2 k (List.mem_flatMap.2 ⟨_, List.getElem_mem _, hk⟩))
  · have hgq : g ∉ blocksOf q := by
      rcases hat with e | e
      · exact n3 g (by rw [e]; simp)
      · intro hk
        have := h.at_ g (List.mem_append.2 (.inr hk))
        omega
    have hgG : g ∉ blocksOf q2 := by
      rcases hat with e | e
      · exact fun hk => hg2 g hk e.symm
      · intro hk
        have := h2.at_ g (List.mem_append.2 (.inr hk))
        omega
    have e1 : (Value.slice (some ⟨g, 0, none⟩) (l.length + l2.length) cap).ownBlock.toList ++ blocksOf (q ++ q2) = g :: (blocksOf q ++ blocksOf q2) := by
      rw [blocksOf_append]; simp [Value.ownBlock]
    rw [e1, List.nodup_cons]
    refine ⟨fun hk => ?_, nodup_mk n2 m2 (fun k hk hk2 => hd k hk2 (List.mem_append.2 (.inr hk)))⟩
    rcases List.mem_append.1 hk with e | e
    · exact hgq e
    · exact hgG e
/-- a row of structs appended to a row of the call's own -/
theorem OwnG.appMany {α : Type} {R : Rd α} {P : Program} {V : World} {t ty : TypeId} {z : Value} {bytes : Nat} (ht : P.underlying t = some (.slice ty)) (hinfo : (P.info? ty).map (fun i => (i.zero, i.size, i.bytes)) = some (some z, R.size, bytes)) (hzs : z.cells.size = R.size) (hsz : 0 < R.size)
    {g0 c0 : Nat} {l l2 : List α} {q q2 : Parts} {g2 c2 : Nat} (h : OwnG ty R V (.slice (some ⟨g0, 0, none⟩) l.length c0) l q) (h2 : OwnG ty R V (.slice (some ⟨g2, 0, none⟩) l2.length c2) l2 q2) (hd : ∀ k ∈ blocksOf q2, k ∉ g0 :: blocksOf q) (hm : l.length + l2.length ≤ maxLen) (hb : (l.length + l2.length) * bytes ≤ 140737488355328) (tyo : TypeId) :
    ∃ g cap w', (Builtin.append_ #[t, t] tyo #[.slice (some ⟨g0, 0, none⟩) l.length c0, .slice (some ⟨g2, 0, none⟩) l2.length c2]).run P V = .ok (.slice (some ⟨g, 0, none⟩) (l.length + l2.length) cap) w' ∧ OwnG ty R w' (.slice (some ⟨g, 0, none⟩) (l.length + l2.length) cap) (l ++ l2) (q ++ q2) ∧ V.grownBy w' (some g0) ∧ (g = g0 ∨ g = V.heap.size) := by
  obtain ⟨i, hi, hz0, hz1, hz2⟩ := info_parts hinfo
  obtain ⟨v', w', h1, h3, h4, h5, h6⟩ := run_append_own_at (P := P) V 0 t tyo ty i z R.size bytes ht hi hz0 hz1 hz2 hzs hsz _ l.length (cellsOf q) h.row ⟨g2, 0, none⟩ l2.length c2 (cellsOf q2) (by rw [cellsOf_length h2.parts, h2.len]) (h2.row.cells rfl) (fun u hu => by
    obtain ⟨p, hp, hu⟩ := List.mem_flatMap.1 hu
    obtain ⟨i, hi, rfl⟩ := List.getElem_of_mem hp
    exact R.ownOne (h2.each i (by rw [← h2.len]; exact hi)) u hu) hm hb (Nat.zero_le _)
  have hne : ¬ v' = .slice none 0 0 := fun e => by have := (h5.1 e).1; cases this
  have hform : ∃ g cap, v' = .slice (some ⟨g, 0, none⟩) (l.length + l2.length) cap := by
    rcases h3.2 with ⟨e, _⟩ | ⟨g', c', cur, e, _⟩
    · exact absurd e hne
    · exact ⟨g', c', e⟩
  obtain ⟨g, cap, rfl⟩ := hform
  have hat : (Value.slice (some ⟨g0, 0, none⟩) l.length c0).ownBlock = some g ∨ g = V.heap.size := by
    rcases h6 with e | e
    · exact .inl (by rw [← e]; rfl)
    · exact .inr (by simpa [Value.ownBlock] using e)
  refine ⟨g, cap, w', h1, OwnG.join h h2 (fun k hk hk2 => hd k hk (by simpa [Value.ownBlock] using hk2)) h3 h4 hat rfl, h4, ?_⟩
  rcases hat with e | e
  · left; have : g0 = g := by simpa [Value.ownBlock] using e
    exact this.symm
  · exact .inr e
end Go.Proofs.Ytgiibadbjgdjcaa.lay

namespace Go.Proofs.Ytgiibadbjgdjcaa.cos
open Go Go.RowKit Go.Proofs.Ytgiibadbjgdjcaa.base Go.Proofs.Ytgiibadbjgdjcaa.pairs Go.Proofs.Ytgiibadbjgdjcaa.ords Go.Proofs.Ytgiibadbjgdjcaa.lay Go.Proofs.Ytgiibadbjgdjcaa.wds
set_option linter.unusedVariables false
set_option linter.unusedSimpArgs false

def wordsOf (n life sure : Int) (log : List Ch) (l : List Jb) : List Wd := l.flatMap (jobW n life sure log)
/-- what TellAll answers -/
def tellR (c : Co) : List Wd := if coordOk c = true then wordsOf c.1 c.2.1 c.2.2.2.2.2 c.2.2.2.2.1 c.2.2.2.1 else []
theorem wordsOf_snoc (n life sure : Int) (log : List Ch) (l : List Jb) (j : Jb) : wordsOf n life sure log (l ++ [j]) = wordsOf n life sure log l ++ jobW n life sure log j := by unfold wordsOf; simp
theorem jobW_len (n life sure : Int) (log : List Ch) (j : Jb) (h : j.2.1.length ≤ 8) : (jobW n life sure log j).length ≤ 8 := by
  have hs := shards_len n j.2.1 h
  unfold jobW
  split
  · exact Nat.le_trans (holdsW_len _ _ _ _ _) hs
  · split
    · rw [tellsW_len]; exact hs
    · simp
theorem wordsOf_len (n life sure : Int) (log : List Ch) (l : List Jb) (h : ∀ j ∈ l, j.2.1.length ≤ 8) : (wordsOf n life sure log l).length ≤ 8 * l.length := by
  induction l with
  | nil => simp [wordsOf]
  | cons j l ih =>
    have h1 := jobW_len n life sure log j (h j (by simp))
    have h2 := ih (fun x hx => h x (List.mem_cons_of_mem _ hx))
    unfold wordsOf at h2 ⊢
    rw [List.flatMap_cons, List.length_append, List.length_cons]
    omega
theorem jobsOk_each {n life next : Int} {log : List Ch} : ∀ {l : List Jb} {p : Option Int}, jobsOk n life next log p l = true → ∀ j ∈ l, opsOk j.2.1 = true ∧ stateOk j.2.2.1 (choice log j.1) = true ∧ life * 1000 ≤ j.1 := by
  intro l
  induction l with
  | nil => intro p _ j hj; exact absurd hj List.not_mem_nil
  | cons x l ih =>
    intro p h j hj
    unfold jobsOk jobOk at h
    simp only [Bool.and_eq_true, decide_eq_true_eq] at h
    rcases List.mem_cons.1 hj with rfl | hj
    · exact ⟨h.1.1.1.1.2, h.1.2, h.1.1.1.1.1.1.1⟩
    · exact ih h.2 j hj
theorem coordOk_jobs {c : Co} (h : coordOk c = true) : ∀ j ∈ c.2.2.2.1, opsOk j.2.1 = true ∧ stateOk j.2.2.1 (choice c.2.2.2.2.1 j.1) = true ∧ c.2.1 * 1000 ≤ j.1 := by
  unfold coordOk at h
  simp only [Bool.and_eq_true] at h
  exact jobsOk_each h.2
theorem opsOk_len {l : List Od} (h : opsOk l = true) : 1 ≤ l.length ∧ l.length ≤ 8 := by
  unfold opsOk at h
  simp only [Bool.and_eq_true, decide_eq_true_eq] at h
  exact h.2
/-- words appended to words -/
theorem words_more {wr w3 : World} {g m cap g2 m2 cap2 : Nat} {q q2 : Parts} {l l2 : List Wd} (HO : OwnG 39 wordR wr (.slice (some ⟨g, 0, none⟩) m cap) l q) (hB : Below wr.heap.size wr w3) (h2 : OwnG 39 wordR w3 (.slice (some ⟨g2, 0, none⟩) m2 cap2) l2 q2) (hq2 : ∀ k ∈ g2 :: blocksOf q2, wr.heap.size ≤ k) (hl : l.length + l2.length ≤ 16777216) (ty : TypeId) :
    ∃ g' cap' w4, (Builtin.append_ #[31, 31] ty #[.slice (some ⟨g, 0, none⟩) m cap, .slice (some ⟨g2, 0, none⟩) m2 cap2]).run Try.prog w3 = .ok (.slice (some ⟨g', 0, none⟩) (m + m2) cap') w4 ∧ OwnG 39 wordR w4 (.slice (some ⟨g', 0, none⟩) (m + m2) cap') (l ++ l2) (q ++ q2) ∧ w3.grownBy w4 (some g) ∧ (g' = g ∨ g' = w3.heap.size) := by
  have e1 := HO.nlen
  have e2 := h2.nlen
  have hlt := HO.lts
  subst e1
  subst e2
  exact OwnG.appMany (P := Try.prog) (z := .agg #[.int .i64 0, .int .i64 0, .int .i64 0, .slice none 0 0, .bool false]) Try.underlying31 infoW rfl (by decide) (HO.below hB) h2 (fun k hk hk2 => by
    have h1 := hq2 k (List.mem_cons_of_mem _ hk)
    have h2 := hlt k hk2
    omega) (by unfold maxLen; omega) (by omega) ty
set_option maxRecDepth 100000 in
set_option maxHeartbeats 1000000 in
theorem spec_l11TellAll (ja : Option Addr) (jn jc : Nat) (la : Option Addr) (ln lc : Nat) (c : Co) (w : World) (h : SeeCo w ja jn jc la ln lc c) (hbd : BoundCo c) (hok : coordOk c = true) :
    Calls Try.prog 59 #[coV c.1 c.2.1 c.2.2.1 c.2.2.2.2.2 ja jn jc la ln lc] w (RetW w (wordsOf c.1 c.2.1 c.2.2.2.2.2 c.2.2.2.2.1 c.2.2.2.1)) := by
  have hhd := coordOk_head hok
  have hjb := coordOk_jobs hok
  obtain ⟨n, life, next, jobs, log, sure⟩ := c
  simp only [] at *
  have hjl : jobs.length = jn := h.jobs.1
  have hj8 : ∀ j ∈ jobs, j.2.1.length ≤ 8 := fun j hj => (opsOk_len (hjb j hj).1).2
  have hjm : jobs.length ≤ 1048576 := hbd.jobs
  have hjc := h.jc
  have hlf := hhd.2.1
  have hnw := h.n
  have HLG := Hid.mk' h.log
  have HJS := Hid.mk' h.jobs
  have HJ8 := Hid.mk' hj8
  obtain ⟨W0, hW0⟩ : ∃ W, w.alloc (.cells #[.int .i64 n, .int .i64 life, .int .i64 next, .slice ja jn jc, .slice la ln lc, .int .i64 sure] 27) = W := ⟨_, rfl⟩
  have hB0 : Below w.heap.size w W0 := by rw [← hW0]; exact below_make
  have hC0 : BoxIn w.heap.size 27 [] [.int .i64 n, .int .i64 life, .int .i64 next, .slice ja jn jc, .slice la ln lc, .int .i64 sure] [] W0 := by rw [← hW0]; exact boxIn_new w _ _
  obtain ⟨W, hW⟩ : ∃ W, W0.alloc (.cells #[] 39) = W := ⟨_, rfl⟩
  have hb0 : Below W0.heap.size W0 W := by rw [← hW]; exact below_make
  have hB := hB0.trans (hb0.mono hB0.size)
  have hr0 := row_new0 W0
  rw [hW] at hr0
  have hs0 : W0.heap.size = w.heap.size + 1 := by rw [← hW0]; simp
  have hC := hC0.below hb0
  have HW : Hid ((w.alloc (.cells #[.int .i64 n, .int .i64 life, .int .i64 next, .slice ja jn jc, .slice la ln lc, .int .i64 sure] 27)).alloc (.cells #[] 39) = W) := by show _ = _; rw [hW0, hW]
  have hO1 := ownG_row0 (R := wordR) (ty := 39) hr0
  rw [hs0] at hO1
  clear hW0 hW hr0 h hbd hok hjb hhd hj8
  unfold coV
  go_enter Try.func59, Try.ntmps59
  go_wp2_with fail
  rw [HW.out]
  go_loopw [4, 3] (fun i v wr => ∃ (k g m cap : Nat) (q : Parts), k ≤ jn ∧ i = .int .i64 (k : Int) ∧ v = .slice (some ⟨g, 0, none⟩) m cap ∧ OwnG 39 wordR wr (.slice (some ⟨g, 0, none⟩) m cap) (wordsOf n life sure log (jobs.take k)) q ∧ (∀ bb ∈ g :: blocksOf q, w.heap.size + 1 ≤ bb) ∧ Below w.heap.size w wr ∧ BoxIn w.heap.size 27 [] [.int .i64 n, .int .i64 life, .int .i64 next, .slice ja jn jc, .slice la ln lc, .int .i64 sure] [] wr) (fun i _ _ => jn - (intOf i).toNat)
  case atStart => exact ⟨0, w.heap.size + 1, 0, 0, [], Nat.zero_le _, rfl, rfl, hO1, fun bb hb => by simp [blocksOf] at hb; omega, hB, hC⟩
  case round =>
    obtain ⟨k, g, m, cap, q, hk, rfl, rfl, hO, hq, hBw, hCw⟩ := hrel
    clear hC hO1
    by_cases hlt : k < jn
    · have hltl : k < jobs.length := by omega
      have hki : (k : Int) < (jn : Int) := by omega
      obtain ⟨b, off, hja, _⟩ := HJS.out.2.2.2 (by omega)
      subst hja
      obtain ⟨u0, u1, u2, u3, hsee, c0, c1, c2, c3⟩ := slg_at4 rfl HJS.out k hltl
      obtain ⟨oa, ol, oc, ya, yl, yc, e, htw, hstw, hOo, hYo, hyc⟩ := job_see.1 hsee
      simp only [List.cons.injEq, and_true] at e
      obtain ⟨rfl, rfl, rfl, rfl⟩ := e
      have HTK : Hid (wordsOf n life sure log (jobs.take (k + 1)) = wordsOf n life sure log (jobs.take k) ++ jobW n life sure log jobs[k]) := by
        show _ = _
        rw [List.take_succ_eq_append_getElem hltl, wordsOf_snoc]
      have h8 := HJ8.out _ (List.getElem_mem hltl)
      have HL : Hid ((wordsOf n life sure log (jobs.take k)).length + (jobW n life sure log jobs[k]).length ≤ 16777216) := by
        have h1 := wordsOf_len n life sure log (jobs.take k) (fun j hj => HJ8.out j (List.mem_of_mem_take hj))
        have h2 := jobW_len n life sure log jobs[k] h8
        rw [List.length_take] at h1
        show _ ≤ _
        omega
      generalize jobs[k] = j at *
      obtain ⟨tx, ops, st, yes⟩ := j
      simp only [] at *
      have hol : ol ≤ 8 := by have := hOo.1.1; omega
      have HT := Hid.mk' (fun wx (hx : Below w.heap.size w wx) => spec_tells n life next sure (some ⟨b, off, none⟩) jn jc la ln lc tx st oa ol oc ya yl yc ops yes log wx (HLG.out.below hx) hlf htw (hOo.1.below hx) (hYo.1.below hx) hol hnw)
      have hbl := World.block_lt_of_cell? _ _ c0
      have K0 := Hid.mk' c0
      have K1 := Hid.mk' c1
      have K2 := Hid.mk' c2
      have K3 := Hid.mk' c3
      have HO := Hid.mk' hO
      have hjs : jn ≤ jc := hjc
      clear hO c0 c1 c2 c3 hsee hOo hYo htw hstw h8
      obtain ⟨a0, a1, a2, a3, a4, a5⟩ := cells6 hCw
      go_wp2_with fail
      clear a0 a1 a2 a3 a4 a5
      have hdW : Below wr.heap.size wr wr.drew := (Below.refl _ _).drew
      have hBD := hBw.trans (hdW.mono hBw.size)
      refine last.wp_region_later (S := fun w' => Below w.heap.size w w' ∧ BoxIn w.heap.size 27 [] [.int .i64 n, .int .i64 life, .int .i64 next, .slice (some ⟨b, off, none⟩) jn jc, .slice la ln lc, .int .i64 sure] [] w') 9 (by kernel_rfl) ⟨hBD, hCw.below hdW⟩ (fun hHeld0 => ?_)
      generalize hD : wr.drew = D at *
      clear hD
      refine last.wpAnyL_take (i := 0) (v := (.slice (some ⟨g, 0, none⟩) m cap)) rfl rfl (by kernel_rfl) (by kernel_rfl) (by kernel_rfl) (by kernel_rfl) (fun _ _ _ h => h) (Or.inl ⟨by rfl, ?_⟩) (by assumption) ?_
      · intro wq hSq; go_simp
      try simp only [Act.put, List.setIfInBounds_toArray, List.set_cons_zero, List.set_cons_succ]
      refine last.wpAnyL_take (i := 1) (v := (.agg #[.int .i64 n, .int .i64 life, .int .i64 next, .slice (some ⟨b, off, none⟩) jn jc, .slice la ln lc, .int .i64 sure])) rfl rfl (by kernel_rfl) (by kernel_rfl) (by kernel_rfl) (by kernel_rfl) (fun _ _ _ h => h) (Or.inl ⟨by rfl, ?_⟩) (by assumption) ?_
      · intro wq hSq; obtain ⟨q0, q1, q2, q3, q4, q5⟩ := cells6 hSq.2; go_simp
      try simp only [Act.put, List.setIfInBounds_toArray, List.set_cons_zero, List.set_cons_succ]
      refine last.wpAnyL_take (i := 2) (v := (.pointer (some ⟨w.heap.size, 3, none⟩))) rfl rfl (by kernel_rfl) (by kernel_rfl) (by kernel_rfl) (by kernel_rfl) (fun _ _ _ h => h) (Or.inl ⟨by rfl, ?_⟩) (by assumption) ?_
      · intro wq hSq; go_simp
      try simp only [Act.put, List.setIfInBounds_toArray, List.set_cons_zero, List.set_cons_succ]
      refine last.wpAnyL_take (i := 3) (v := (.slice (some ⟨b, off, none⟩) jn jc)) rfl rfl (by kernel_rfl) (by kernel_rfl) (by kernel_rfl) (by kernel_rfl) (fun _ _ _ h => h) (Or.inl ⟨by rfl, ?_⟩) (by assumption) ?_
      · intro wq hSq; obtain ⟨q0, q1, q2, q3, q4, q5⟩ := cells6 hSq.2; go_simp
      try simp only [Act.put, List.setIfInBounds_toArray, List.set_cons_zero, List.set_cons_succ]
      refine last.wpAnyL_take (i := 4) (v := (.int .i64 (k : Int))) rfl rfl (by kernel_rfl) (by kernel_rfl) (by kernel_rfl) (by kernel_rfl) (fun _ _ _ h => h) (Or.inl ⟨by rfl, ?_⟩) (by assumption) ?_
      · intro wq hSq; go_simp
      try simp only [Act.put, List.setIfInBounds_toArray, List.set_cons_zero, List.set_cons_succ]
      refine last.wpAnyL_take (i := 5) (v := (.pointer (some ⟨b, off + k * 4, none⟩))) rfl rfl (by kernel_rfl) (by kernel_rfl) (by kernel_rfl) (by kernel_rfl) (fun _ _ _ h => h) (Or.inl ⟨by rfl, ?_⟩) (by assumption) ?_
      · intro wq hSq; go_simp
      try simp only [Act.put, List.setIfInBounds_toArray, List.set_cons_zero, List.set_cons_succ]
      refine last.wpAnyL_take (i := 6) (v := (.agg #[.int .i64 tx, .slice oa ol oc, .int .i64 st, .slice ya yl yc])) rfl rfl (by kernel_rfl) (by kernel_rfl) (by kernel_rfl) (by kernel_rfl) (fun _ _ _ h => h) (Or.inl ⟨by rfl, ?_⟩) (by assumption) ?_
      · intro wq hSq; have q0 := (hSq.1.cell (p := ⟨b, off + k * 4, none⟩) hbl).trans K0.out; have q1 := (hSq.1.cell (p := ⟨b, off + k * 4 + 1, none⟩) hbl).trans K1.out; have q2 := (hSq.1.cell (p := ⟨b, off + k * 4 + 2, none⟩) hbl).trans K2.out; have q3 := (hSq.1.cell (p := ⟨b, off + k * 4 + 3, none⟩) hbl).trans K3.out; go_simp
      try simp only [Act.put, List.setIfInBounds_toArray, List.set_cons_zero, List.set_cons_succ]
      refine last.wpAnyL_one (i := 7) (o := { dst := some 20, op := Op.call { callee := Callee.value (Operand.func 88), args := #[Operand.tmp 14, Operand.tmp 19], argTypes := #[27, 49] }, type := 31, pos := "l11_coord.go:176", after := #[{ on := 1, ground := Ground.data }, { on := 6, ground := Ground.data }], guard := none }) (by kernel_rfl) rfl (fun K hK => ?_)
      refine stepg.call2 rfl 88 (.tmp 14) (.tmp 19) _ rfl (fun _ _ => rfl) (.agg #[.int .i64 n, .int .i64 life, .int .i64 next, .slice (some ⟨b, off, none⟩) jn jc, .slice la ln lc, .int .i64 sure]) (.agg #[.int .i64 tx, .slice oa ol oc, .int .i64 st, .slice ya yl yc]) (by kernel_rfl) (by kernel_rfl) _ (HT.out D hBD) ?_
      rintro e w3 ⟨g2, m2, cap2, q2, rfl, hO2, hq2, hb3⟩
      refine ⟨_, rfl, ?_⟩
      have hDs := hdW.size
      have hB3 : Below wr.heap.size wr w3 := hdW.trans (hb3.mono hdW.size)
      have hBw3 := hBw.trans (hB3.mono hBw.size)
      obtain ⟨g', cap', w4, hrun, hO4, hgr, hat4⟩ := words_more HO.out hB3 hO2 (fun kk hk => by have := hq2 kk hk; omega) HL.out 31
      rw [← HTK.out] at hO4
      have hqg := hq g (by simp)
      have hws := hBw.size
      have hB4 : Below w.heap.size w w4 := hBw3.grown hgr hBw3.size (fun bb e => by cases e; omega)
      have hC4 := (hCw.below hB3).grown hgr (fun e => by have := Option.some.inj e; omega)
      have hq4 : ∀ bb ∈ g' :: blocksOf (q ++ q2), w.heap.size + 1 ≤ bb := fun bb hb => by
        rw [blocksOf_append] at hb
        have hlg := HO.out.lts g (by simp)
        have hs4 := hB3.size
        rcases List.mem_cons.1 hb with e | e
        · rcases hat4 with e2 | e2 <;> omega
        · rcases List.mem_append.1 e with e | e
          · exact hq bb (List.mem_cons_of_mem _ e)
          · have := hq2 bb (List.mem_cons_of_mem _ e); omega
      have HO4 := Hid.mk' hO4
      have HQ4 := Hid.mk' hq4
      clear hO4 hq4 hgr hO2 hq2
      refine hK.out _ _ ?_ (fun hHeld => ?_)
      · exact ⟨hBw3, hCw.below hB3⟩
      clear hK K hHeld0
      have hHeld0 := hHeld
      clear hHeld
      try simp only [Act.put, List.setIfInBounds_toArray, List.set_cons_zero, List.set_cons_succ]
      refine last.wpAnyL_one (i := 8) (o := { dst := some 21, op := Op.call { callee := Callee.builtin Builtin.append, args := #[Operand.tmp 13, Operand.tmp 20], argTypes := #[31, 31] }, type := 31, pos := "l11_coord.go:176", after := #[{ on := 0, ground := Ground.data }, { on := 7, ground := Ground.data }, { on := 7, ground := Ground.chain }], guard := none }) (by kernel_rfl) rfl (fun K hK => ?_)
      refine step_append_run rfl (.tmp 13) (.tmp 20) 31 rfl (by kernel_rfl) (by kernel_rfl) hrun ?_
      clear hrun
      refine hK.out _ _ ?_ (fun hHeld => ?_)
      · exact ⟨hB4, hC4⟩
      clear hK K hHeld0
      have hHeld0 := hHeld
      clear hHeld
      try simp only [Act.put, List.setIfInBounds_toArray, List.set_cons_zero, List.set_cons_succ]
      refine last.wpAnyL_last (o := { dst := some 3, op := Op.assign (Operand.tmp 21), type := 31, pos := "l11_coord.go:176", after := #[{ on := 8, ground := Ground.data }, { on := 8, ground := Ground.chain }, { on := 0, ground := Ground.phase }, { on := 1, ground := Ground.phase }, { on := 2, ground := Ground.phase }, { on := 3, ground := Ground.phase }, { on := 4, ground := Ground.phase }, { on := 5, ground := Ground.phase }, { on := 6, ground := Ground.phase }, { on := 7, ground := Ground.phase }, { on := 8, ground := Ground.phase }], guard := none }) (by kernel_rfl) rfl (by kernel_rfl) (fun K hK => ?_)
      go_simp
      refine hK.out _ _ ?_
      clear hK K
      go_wp2_with fail
      go_roundw
      case rel => exact ⟨k + 1, g', m + m2, cap', q ++ q2, by omega, by go_num, rfl, HO4.out, HQ4.out, hB4, hC4⟩
      case measure => simp [intOf]; omega
    · have hke : jobs.take k = jobs := List.take_of_length_le (by omega)
      rw [hke] at hO
      have hki : ¬ (k : Int) < (jn : Int) := by omega
      obtain ⟨a0, a1, a2, a3, a4, a5⟩ := cells6 hCw
      go_wp2_with fail
      go_ret
      exact ⟨_, _, _, q, rfl, hO, fun bb hb => by have := hq bb hb; omega, hBw⟩
set_option maxRecDepth 100000 in
set_option maxHeartbeats 1000000 in
theorem spec_tellAll (ja : Option Addr) (jn jc : Nat) (la : Option Addr) (ln lc : Nat) (c : Co) (w : World) (h : SeeCo w ja jn jc la ln lc c) (hbd : BoundCo c) :
    Calls Try.prog 28 #[coV c.1 c.2.1 c.2.2.1 c.2.2.2.2.2 ja jn jc la ln lc] w (RetW w (tellR c)) := by
  obtain ⟨W, hW⟩ : ∃ W, w.alloc (coO c.1 c.2.1 c.2.2.1 c.2.2.2.2.2 ja jn jc la ln lc) = W := ⟨_, rfl⟩
  have hB : Below w.heap.size w W := by rw [← hW]; exact below_new _ _
  have hbx : BoxC w.heap.size c.1 c.2.1 c.2.2.1 c.2.2.2.2.2 ja jn jc la ln lc W := by rw [← hW]; exact boxC_new _ _ _ _ _ _ _ _ _ _ _
  have HCK := Hid.mk' (spec_coordOk ja jn jc la ln lc c W (h.below hB) hbd.fits)
  have HTA := Hid.mk' (fun wx (hx : Below w.heap.size w wx) hok => spec_l11TellAll ja jn jc la ln lc c wx (h.below hx) hbd hok)
  have HR : Hid (tellR c = if coordOk c = true then wordsOf c.1 c.2.1 c.2.2.2.2.2 c.2.2.2.2.1 c.2.2.2.1 else []) := rfl
  have HBX := Hid.mk' hbx
  obtain ⟨x0, x1, x2, x3, x4, x5⟩ := hbx.cells
  have HW := Hid.mk' hW
  rw [← hW] at x0 x1 x2 x3 x4 x5
  clear hW h hbd hbx
  generalize tellR c = tr at *
  cases hok : coordOk c
  · rw [hok] at HCK HR
    go_enter Try.func28, Try.ntmps28
    go_wp2_with fail
    rw [HW.out]
    refine HCK.out.mono ?_
    rintro e w1 ⟨rfl, hb1⟩
    clear x0 x1 x2 x3 x4 x5
    have hB1 := hB.trans (hb1.mono hB.size)
    have hr0 := ownG_row0 (R := wordR) (ty := 39) (row_new0 w1)
    have HR0 := Hid.mk' hr0
    clear hr0
    go_wp2_with fail
    go_ret
    rw [HR.out]
    exact ⟨_, _, _, [], rfl, HR0.out, fun bb hb => by have : bb = w1.heap.size := (by simpa [blocksOf] using hb); have := hB1.size; omega, hB1.trans (below_make.mono hB1.size)⟩
  · have HTA := Hid.mk' (fun wx hx => HTA.out wx hx hok)
    rw [hok] at HCK HR
    go_enter Try.func28, Try.ntmps28
    go_wp2_with fail
    rw [HW.out]
    refine HCK.out.mono ?_
    rintro e w1 ⟨rfl, hb1⟩
    clear x0 x1 x2 x3 x4 x5
    have hB1 := hB.trans (hb1.mono hB.size)
    obtain ⟨x0, x1, x2, x3, x4, x5⟩ := (HBX.out.below hb1).cells
    go_wp2_with fail
    refine (HTA.out w1 hB1).mono ?_
    rintro e w2 ⟨g, m, cap, q, rfl, hO, hq, hb2⟩
    go_wp2_with fail
    go_ret
    rw [HR.out]
    exact ⟨g, m, cap, q, rfl, hO, fun bb hb => by have := hq bb hb; have := hB1.size; omega, hB1.trans (hb2.mono hB1.size)⟩
end Go.Proofs.Ytgiibadbjgdjcaa.cos
