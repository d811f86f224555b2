/- A row of structs appended to a row of the call's own. No function of the program is named here. The specification's words of all jobs. -/
import Derived.Test.YtdeaiefhegjalaaBund12be
import Derived.Test.YtdeaiefhegjalaaBund13c
import Derived.Test.YtdeaiefhegjalaaBund12at
namespace Go.Proofs.Ytdeaiefhegjalaa.lay
open Go Go.RowKit Go.Proofs.Ytdeaiefhegjalaa.base
set_option linter.unusedVariables false
set_option linter.unusedSimpArgs false

theorem OwnG.join {α : Type} {ty : TypeId} {R : Rd α} {w w7 : World} {v v2 : Value} {l l2 : List α} {q q2 : Parts} {g cap H : Nat} (h : OwnG ty R w v l q) (h2 : OwnG ty R w v2 l2 q2) (hd : ∀ k ∈ blocksOf q2, k ∉ v.ownBlock.toList ++ blocksOf q)
    (hown : w7.ownsRow 0 ty R.size (.slice (some ⟨g, 0, none⟩) (l.length + l2.length) cap) (l.length + l2.length) (cellsOf q ++ cellsOf q2)) (hgrow : w.grownBy w7 v.ownBlock) (hat : v.ownBlock = some g ∨ g = H) (hH : w.heap.size = H) :
    OwnG ty R w7 (.slice (some ⟨g, 0, none⟩) (l.length + l2.length) cap) (l ++ l2) (q ++ q2) := by
  have hlen := h.len
  have hlen2 := h2.len
  obtain ⟨n1, n2, n3⟩ := nodup_parts h.nodup
  obtain ⟨m1, m2, m3⟩ := nodup_parts h2.nodup
  have hg1 : ∀ k ∈ blocksOf q, some k ≠ v.ownBlock := fun k hk e => n3 k (by rw [← e]; simp) hk
  have hg2 : ∀ k ∈ blocksOf q2, some k ≠ v.ownBlock := fun k hk e => hd k hk (List.mem_append.2 (.inl (by rw [← e]; simp)))
  refine ⟨by simp [hlen, hlen2], ?_, fun i hi => ?_, ?_⟩
  · rw [cellsOf_append, List.length_append]
    exact hown
  · by_cases e : i < l.length
    · simp only [List.getElem_append_left e, List.getElem_append_left (show i < q.length by omega)]
      exact R.ownGrown (h.each i e) hgrow (fun k hk => hg1 k (List.mem_flatMap.2 ⟨_, List.getElem_mem _, hk⟩))
    · have hi2 : i - l.length < l2.length := by simp at hi; omega
      have e1 : (l ++ l2)[i] = l2[i - l.length] := List.getElem_append_right (by omega)
      have e2 : (q ++ q2)[i]'(by simp; omega) = q2[i - l.length]'(by omega) := by
        rw [List.getElem_append_right (by omega)]
        simp only [hlen]
      rw [e1]
      simp only [e2]
      exact R.ownGrown (h2.each _ hi2) hgrow (fun k hk => hg2 k (List.mem_flatMap.2 ⟨_, List.getElem_mem _, hk⟩))
  · have hgq : g ∉ blocksOf q := by
      rcases hat with e | e
      · exact n3 g (by rw [e]; simp)
      · intro hk
        have := h.at_ g (List.mem_append.2 (.inr hk))
        omega
    have hgG : g ∉ blocksOf q2 := by
      rcases hat with e | e
      · exact fun hk => hg2 g hk e.symm
      · intro hk
        have := h2.at_ g (List.mem_append.2 (.inr hk))
        omega
    have e1 : (Value.slice (some ⟨g, 0, none⟩) (l.length + l2.length) cap).ownBlock.toList ++ blocksOf (q ++ q2) = g :: (blocksOf q ++ blocksOf q2) := by
      rw [blocksOf_append]; simp [Value.ownBlock]
    rw [e1, List.nodup_cons]
    refine ⟨fun hk => ?_, nodup_mk n2 m2 (fun k hk hk2 => hd k hk2 (List.mem_append.2 (.inr hk)))⟩
    rcases List.mem_append.1 hk with e | e
    · exact hgq e
    · exact hgG e
/-- a row of structs appended to a row of the call's own -/
theorem OwnG.appMany {α : Type} {R : Rd α} {P : Program} {V : World} {t ty : TypeId} {z : Value} {bytes : Nat} (ht : P.underlying t = some (.slice ty)) (hinfo : (P.info? ty).map (fun i => (i.zero, i.size, i.bytes)) = some (some z, R.size, bytes)) (hzs : z.cells.size = R.size) (hsz : 0 < R.size)
    {g0 c0 : Nat} {l l2 : List α} {q q2 : Parts} {g2 c2 : Nat} (h : OwnG ty R V (.slice (some ⟨g0, 0, none⟩) l.length c0) l q) (h2 : OwnG ty R V (.slice (some ⟨g2, 0, none⟩) l2.length c2) l2 q2) (hd : ∀ k ∈ blocksOf q2, k ∉ g0 :: blocksOf q) (hm : l.length + l2.length ≤ maxLen) (hb : (l.length + l2.length) * bytes ≤ 140737488355328) (tyo : TypeId) :
    ∃ g cap w', (Builtin.append_ #[t, t] tyo #[.slice (some ⟨g0, 0, none⟩) l.length c0, .slice (some ⟨g2, 0, none⟩) l2.length c2]).run P V = .ok (.slice (some ⟨g, 0, none⟩) (l.length + l2.length) cap) w' ∧ OwnG ty R w' (.slice (some ⟨g, 0, none⟩) (l.length + l2.length) cap) (l ++ l2) (q ++ q2) ∧ V.grownBy w' (some g0) ∧ (g = g0 ∨ g = V.heap.size) := by
  obtain ⟨i, hi, hz0, hz1, hz2⟩ := info_parts hinfo
  obtain ⟨v', w', h1, h3, h4, h5, h6⟩ := run_append_own_at (P := P) V 0 t tyo ty i z R.size bytes ht hi hz0 hz1 hz2 hzs hsz _ l.length (cellsOf q) h.row ⟨g2, 0, none⟩ l2.length c2 (cellsOf q2) (by rw [cellsOf_length h2.parts, h2.len]) (h2.row.cells rfl) (fun u hu => by
    obtain ⟨p, hp, hu⟩ := List.mem_flatMap.1 hu
    obtain ⟨i, hi, rfl⟩ := List.getElem_of_mem hp
    exact R.ownOne (h2.each i (by rw [← h2.len]; exact hi)) u hu) hm hb (Nat.zero_le _)
  have hne : ¬ v' = .slice none 0 0 := fun e => by have := (h5.1 e).1; cases this
  have hform : ∃ g cap, v' = .slice (some ⟨g, 0, none⟩) (l.length + l2.length) cap := by
    rcases h3.2 with ⟨e, _⟩ | ⟨g', c', cur, e, _⟩
    · exact absurd e hne
    · exact ⟨g', c', e⟩
  obtain ⟨g, cap, rfl⟩ := hform
  have hat : (Value.slice (some ⟨g0, 0, none⟩) l.length c0).ownBlock = some g ∨ g = V.heap.size := by
    rcases h6 with e | e
    · exact .inl (by rw [← e]; rfl)
    · exact .inr (by simpa [Value.ownBlock] using e)
  refine ⟨g, cap, w', h1, OwnG.join h h2 (fun k hk hk2 => hd k hk (by simpa [Value.ownBlock] using hk2)) h3 h4 hat rfl, h4, ?_⟩
  rcases hat with e | e
  · left; have : g0 = g := by simpa [Value.ownBlock] using e
    exact this.symm
  · exact .inr e
end Go.Proofs.Ytdeaiefhegjalaa.lay

namespace Go.Proofs.Ytdeaiefhegjalaa.cos
open Go Go.RowKit Go.Proofs.Ytdeaiefhegjalaa.base Go.Proofs.Ytdeaiefhegjalaa.pairs Go.Proofs.Ytdeaiefhegjalaa.ords Go.Proofs.Ytdeaiefhegjalaa.lay Go.Proofs.Ytdeaiefhegjalaa.wds
set_option linter.unusedVariables false
set_option linter.unusedSimpArgs false

def wordsOf (n life sure : Int) (log : List Ch) (l : List Jb) : List Wd := l.flatMap (jobW n life sure log)
/-- what TellAll answers -/
def tellR (c : Co) : List Wd := if coordOk c = true then wordsOf c.1 c.2.1 c.2.2.2.2.2 c.2.2.2.2.1 c.2.2.2.1 else []
theorem wordsOf_snoc (n life sure : Int) (log : List Ch) (l : List Jb) (j : Jb) : wordsOf n life sure log (l ++ [j]) = wordsOf n life sure log l ++ jobW n life sure log j := by unfold wordsOf; simp
theorem jobW_len (n life sure : Int) (log : List Ch) (j : Jb) (h : j.2.1.length ≤ 8) : (jobW n life sure log j).length ≤ 8 := by
  have hs := shards_len n j.2.1 h
  unfold jobW
  split
  · exact Nat.le_trans (holdsW_len _ _ _ _ _) hs
  · split
    · rw [tellsW_len]; exact hs
    · simp
theorem wordsOf_len (n life sure : Int) (log : List Ch) (l : List Jb) (h : ∀ j ∈ l, j.2.1.length ≤ 8) : (wordsOf n life sure log l).length ≤ 8 * l.length := by
  induction l with
  | nil => simp [wordsOf]
  | cons j l ih =>
    have h1 := jobW_len n life sure log j (h j (by simp))
    have h2 := ih (fun x hx => h x (List.mem_cons_of_mem _ hx))
    unfold wordsOf at h2 ⊢
    rw [List.flatMap_cons, List.length_append, List.length_cons]
    omega
theorem jobsOk_each {n life next : Int} {log : List Ch} : ∀ {l : List Jb} {p : Option Int}, jobsOk n life next log p l = true → ∀ j ∈ l, opsOk j.2.1 = true ∧ stateOk j.2.2.1 (choice log j.1) = true ∧ life * 1000 ≤ j.1 := by
  intro l
  induction l with
  | nil => intro p _ j hj; exact absurd hj List.not_mem_nil
  | cons x l ih =>
    intro p h j hj
    unfold jobsOk jobOk at h
    simp only [Bool.and_eq_true, decide_eq_true_eq] at h
    rcases List.mem_cons.1 hj with rfl | hj
    · exact ⟨h.1.1.1.1.2, h.1.2, h.1.1.1.1.1.1.1⟩
    · exact ih h.2 j hj
theorem coordOk_jobs {c : Co} (h : coordOk c = true) : ∀ j ∈ c.2.2.2.1, opsOk j.2.1 = true ∧ stateOk j.2.2.1 (choice c.2.2.2.2.1 j.1) = true ∧ c.2.1 * 1000 ≤ j.1 := by
  unfold coordOk at h
  simp only [Bool.and_eq_true] at h
  exact jobsOk_each h.2
theorem opsOk_len {l : List Od} (h : opsOk l = true) : 1 ≤ l.length ∧ l.length ≤ 8 := by
  unfold opsOk at h
  simp only [Bool.and_eq_true, decide_eq_true_eq] at h
  exact h.2
/-- words appended to words -/
theorem words_more {wr w3 : World} {g m cap g2 m2 cap2 : Nat} {q q2 : Parts} {l l2 : List Wd} (HO : OwnG 124 wordR wr (.slice (some ⟨g, 0, none⟩) m cap) l q) (hB : Below wr.heap.size wr w3) (h2 : OwnG 124 wordR w3 (.slice (some ⟨g2, 0, none⟩) m2 cap2) l2 q2) (hq2 : ∀ k ∈ g2 :: blocksOf q2, wr.heap.size ≤ k) (hl : l.length + l2.length ≤ 16777216) (ty : TypeId) :
    ∃ g' cap' w4, (Builtin.append_ #[82, 82] ty #[.slice (some ⟨g, 0, none⟩) m cap, .slice (some ⟨g2, 0, none⟩) m2 cap2]).run Try.prog w3 = .ok (.slice (some ⟨g', 0, none⟩) (m + m2) cap') w4 ∧ OwnG 124 wordR w4 (.slice (some ⟨g', 0, none⟩) (m + m2) cap') (l ++ l2) (q ++ q2) ∧ w3.grownBy w4 (some g) ∧ (g' = g ∨ g' = w3.heap.size) := by
  have e1 := HO.nlen
  have e2 := h2.nlen
  have hlt := HO.lts
  subst e1
  subst e2
  exact OwnG.appMany (P := Try.prog) (z := .agg #[.int .i64 0, .int .i64 0, .int .i64 0, .slice none 0 0, .bool false]) Try.underlying82 infoW rfl (by decide) (HO.below hB) h2 (fun k hk hk2 => by
    have h1 := hq2 k (List.mem_cons_of_mem _ hk)
    have h2 := hlt k hk2
    omega) (by unfold maxLen; omega) (by omega) ty
end Go.Proofs.Ytdeaiefhegjalaa.cos
