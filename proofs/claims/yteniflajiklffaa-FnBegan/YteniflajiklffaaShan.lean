/- Plain mathematics of one who decides: what begins, what is voted, and that all stays right. The program's words that tell shards what was decided. The specification's words that tell of a job. A row of structs appended to a row of the call's own. No function of the program is named here. The specification's words of all jobs. -/
import Derived.Test.YteniflajiklffaaShah
import Derived.Test.YteniflajiklffaaShaj
import Derived.Test.YteniflajiklffaaSham
import Derived.Test.YteniflajiklffaaShae
import Derived.Test.YteniflajiklffaaShag
namespace Go.Proofs.Yteniflajiklffaa.cos
open Go Go.RowKit Go.Proofs.Yteniflajiklffaa.base Go.Proofs.Yteniflajiklffaa.pairs Go.Proofs.Yteniflajiklffaa.ords Go.Proofs.Yteniflajiklffaa.wds
set_option linter.unusedVariables false
set_option linter.unusedSimpArgs false

structure JobFine (n life next : Int) (log : List Ch) (j : Jb) : Prop where
  lo : life * 1000 ≤ j.1
  hi : j.1 ≤ life * 1000 + next - 1
  ops : opsOk j.2.1 = true
  st : 1 ≤ j.2.2.1 ∧ j.2.2.1 ≤ 3
  yes : yesOk (shardsOf n j.2.1) none j.2.2.2 = true
  said : stateOk j.2.2.1 (choice log j.1) = true
theorem jobOk_iff {n life next : Int} {log : List Ch} {p : Option Int} {j : Jb} : jobOk n life next log p j = true ↔ JobFine n life next log j ∧ ∀ q, p = some q → q < j.1 := by
  unfold jobOk
  simp only [Bool.and_eq_true, decide_eq_true_eq]
  constructor
  · rintro ⟨⟨⟨⟨⟨h1, h2⟩, h3⟩, h4⟩, h5⟩, h6⟩
    refine ⟨⟨h1.1, h1.2, h3, h4, h5, h6⟩, fun q e => ?_⟩
    subst e
    simpa using h2
  · rintro ⟨h, hp⟩
    refine ⟨⟨⟨⟨⟨⟨h.lo, h.hi⟩, ?_⟩, h.ops⟩, h.st⟩, h.yes⟩, h.said⟩
    cases p with
    | none => rfl
    | some q => exact decide_eq_true (hp q rfl)
theorem jobsOk_iff {n life next : Int} {log : List Ch} : ∀ {l : List Jb} {p : Option Int}, jobsOk n life next log p l = true ↔ (∀ j ∈ l, JobFine n life next log j) ∧ (l.map fun j => j.1).Pairwise (· < ·) ∧ ∀ q, p = some q → ∀ j ∈ l, q < j.1 := by
  intro l
  induction l with
  | nil => intro p; simp [jobsOk]
  | cons x l ih =>
    intro p
    unfold jobsOk
    rw [Bool.and_eq_true, jobOk_iff, ih]
    constructor
    · rintro ⟨⟨h1, h2⟩, h3, h4, h5⟩
      refine ⟨fun j hj => ?_, ?_, fun q e j hj => ?_⟩
      · rcases List.mem_cons.1 hj with rfl | hj
        · exact h1
        · exact h3 j hj
      · rw [List.map_cons, List.pairwise_cons]
        refine ⟨fun z hz => ?_, h4⟩
        obtain ⟨j, hj, rfl⟩ := List.mem_map.1 hz
        exact h5 x.1 rfl j hj
      · rcases List.mem_cons.1 hj with rfl | hj
        · exact h2 q e
        · have := h2 q e
          have := h5 x.1 rfl j hj
          omega
    · rintro ⟨h1, h2, h3⟩
      rw [List.map_cons, List.pairwise_cons] at h2
      refine ⟨⟨h1 x List.mem_cons_self, fun q e => h3 q e x List.mem_cons_self⟩, fun j hj => h1 j (List.mem_cons_of_mem _ hj), h2.2, fun q e j hj => ?_⟩
      cases e
      exact h2.1 j.1 (List.mem_map.2 ⟨j, hj, rfl⟩)
structure RightCo (c : Co) : Prop where
  n : 1 ≤ c.1 ∧ c.1 ≤ 8
  life : 1 ≤ c.2.1 ∧ c.2.1 ≤ 900
  next : 0 ≤ c.2.2.1 ∧ c.2.2.1 ≤ 999
  few : c.2.2.2.2.1.length ≤ 1000
  sure : 0 ≤ c.2.2.2.2.2 ∧ c.2.2.2.2.2 ≤ (c.2.2.2.2.1.length : Int)
  range : ∀ x ∈ c.2.2.2.2.1, 1000 ≤ x.1 ∧ x.1 ≤ c.2.1 * 1000 + c.2.2.1 - 1
  nodup : (c.2.2.2.2.1.map fun x => x.1).Nodup
  jobs : ∀ j ∈ c.2.2.2.1, JobFine c.1 c.2.1 c.2.2.1 c.2.2.2.2.1 j
  rise : (c.2.2.2.1.map fun j => j.1).Pairwise (· < ·)
theorem coordOk_iff {c : Co} : coordOk c = true ↔ RightCo c := by
  unfold coordOk headOk logOk
  simp only [Bool.and_eq_true, decide_eq_true_eq, jobsOk_iff, List.all_eq_true]
  constructor
  · rintro ⟨⟨⟨⟨⟨⟨h1, h2⟩, h3⟩, h4⟩, h5⟩, h6, h7⟩, h8, h9, _⟩
    exact ⟨h1, h2, h3, h4, h5, h6, h7, h8, h9⟩
  · intro h
    exact ⟨⟨⟨⟨⟨⟨h.n, h.life⟩, h.next⟩, h.few⟩, h.sure⟩, h.range, h.nodup⟩, h.jobs, h.rise, fun q e => by cases e⟩
theorem yesOk_iff {list : List Int} : ∀ {l : List Int} {p : Option Int}, yesOk list p l = true ↔ (∀ x ∈ l, x ∈ list) ∧ Asc l ∧ ∀ q, p = some q → ∀ x ∈ l, q < x := by
  intro l
  induction l with
  | nil => intro p; simp [yesOk, Asc]
  | cons y l ih =>
    intro p
    unfold yesOk
    rw [Bool.and_eq_true, Bool.and_eq_true, decide_eq_true_eq, ih]
    constructor
    · rintro ⟨⟨h1, h2⟩, h3, h4, h5⟩
      refine ⟨fun x hx => ?_, ?_, fun q e x hx => ?_⟩
      · rcases List.mem_cons.1 hx with rfl | hx
        · exact h1
        · exact h3 x hx
      · unfold Asc
        rw [List.pairwise_cons]
        exact ⟨fun z hz => h5 y rfl z hz, h4⟩
      · subst e
        have h2' : q < y := by simpa using h2
        rcases List.mem_cons.1 hx with rfl | hx
        · exact h2'
        · have := h5 y rfl x hx
          omega
    · rintro ⟨h1, h2, h3⟩
      unfold Asc at h2
      rw [List.pairwise_cons] at h2
      refine ⟨⟨h1 y List.mem_cons_self, ?_⟩, fun x hx => h1 x (List.mem_cons_of_mem _ hx), h2.2, fun q e x hx => ?_⟩
      · cases p with
        | none => rfl
        | some q => exact decide_eq_true (h3 q rfl y List.mem_cons_self)
      · cases e; exact h2.1 x hx
theorem choice_out {log : List Ch} {tx : Int} (h : ∀ x ∈ log, x.1 ≠ tx) : choice log tx = none := by
  cases e : choice log tx with
  | none => rfl
  | some y => exact absurd rfl (h _ (mem_of_choice e))
theorem choice_snoc {log : List Ch} {tx t : Int} {y : Bool} : choice (log ++ [(tx, y)]) t = if choice log t = none ∧ t = tx then some y else choice log t := by
  unfold choice
  rw [List.find?_append]
  cases e : log.find? (fun c => decide (c.1 = t)) with
  | none =>
    by_cases ht : t = tx
    · subst ht; simp [List.find?_cons]
    · have : ¬ tx = t := fun e => ht e.symm
      simp [List.find?_cons, ht, this]
  | some c => simp
/-! ### what begins -/
def nextTx (c : Co) : Int := c.2.1 * 1000 + c.2.2.1
def begunC (c : Co) (ops : List Od) : Co := (c.1, c.2.1, c.2.2.1 + 1, c.2.2.2.1 ++ [(nextTx c, ops, 1, [])], c.2.2.2.2.1, c.2.2.2.2.2)
def mayBegin (c : Co) (ops : List Od) : Bool := opsOk ops && decide (c.2.2.1 ≠ 999) && decide (c.2.2.2.2.1.length < 1000)
theorem begun_right {c : Co} {ops : List Od} (h : RightCo c) (hm : mayBegin c ops = true) : RightCo (begunC c ops) := by
  unfold mayBegin at hm
  simp only [Bool.and_eq_true, decide_eq_true_eq] at hm
  obtain ⟨⟨h1, h2⟩, h3⟩ := hm
  have hn := h.next
  have hl := h.life
  have hout : choice c.2.2.2.2.1 (nextTx c) = none := choice_out fun x hx e => by
    have := (h.range x hx).2
    unfold nextTx at e
    omega
  refine ⟨h.n, h.life, ⟨by show 0 ≤ c.2.2.1 + 1; omega, by show c.2.2.1 + 1 ≤ 999; omega⟩, h.few, h.sure, fun x hx => ?_, h.nodup, fun j hj => ?_, ?_⟩
  · have := h.range x hx
    show 1000 ≤ x.1 ∧ x.1 ≤ c.2.1 * 1000 + (c.2.2.1 + 1) - 1
    omega
  · rcases List.mem_append.1 hj with hj | hj
    · have k := h.jobs j hj
      have := k.hi
      exact ⟨k.lo, by show j.1 ≤ c.2.1 * 1000 + (c.2.2.1 + 1) - 1; omega, k.ops, k.st, k.yes, k.said⟩
    · have : j = (nextTx c, ops, 1, []) := by simpa using hj
      subst this
      refine ⟨by show c.2.1 * 1000 ≤ nextTx c; unfold nextTx; omega, by show nextTx c ≤ c.2.1 * 1000 + (c.2.2.1 + 1) - 1; unfold nextTx; omega, h1, ⟨(by decide : (1 : Int) ≤ 1), (by decide : (1 : Int) ≤ 3)⟩, rfl, ?_⟩
      show stateOk 1 (choice c.2.2.2.2.1 (nextTx c)) = true
      rw [hout]; rfl
  · show ((c.2.2.2.1 ++ [(nextTx c, ops, 1, [])]).map fun (j : Jb) => j.1).Pairwise (· < ·)
    rw [List.map_append, List.pairwise_append]
    refine ⟨h.rise, by simp, fun a ha b hb => ?_⟩
    obtain ⟨j, hj, rfl⟩ := List.mem_map.1 ha
    have hb2 : b = nextTx c := by simpa using hb
    have := (h.jobs j hj).hi
    subst hb2
    unfold nextTx
    omega
/-! ### what is voted -/
def votedJ (j : Jb) (list : List Int) (shard : Int) (yes : Bool) : Jb × Option Bool :=
  if yes = true then (if (putI j.2.2.2 shard).length = list.length then ((j.1, j.2.1, 2, putI j.2.2.2 shard), some true) else ((j.1, j.2.1, j.2.2.1, putI j.2.2.2 shard), none)) else ((j.1, j.2.1, 3, j.2.2.2), some false)
def addCh (log : List Ch) (tx : Int) : Option Bool → List Ch
  | none => log
  | some y => log ++ [(tx, y)]
def votes (c : Co) (shard tx : Int) : Option Nat :=
  match jobAt c.2.2.2.1 tx with
  | none => none
  | some k => match c.2.2.2.1[k]? with
    | none => none
    | some j => if j.2.2.1 = 1 ∧ c.2.2.2.2.1.length < 1000 ∧ shard ∈ shardsOf c.1 j.2.1 then some k else none
def votedC (c : Co) (k : Nat) (j : Jb) (shard : Int) (yes : Bool) : Co :=
  (c.1, c.2.1, c.2.2.1, c.2.2.2.1.set k (votedJ j (shardsOf c.1 j.2.1) shard yes).1, addCh c.2.2.2.2.1 j.1 (votedJ j (shardsOf c.1 j.2.1) shard yes).2, c.2.2.2.2.2)
def voteS (c : Co) (shard tx : Int) (yes : Bool) : Co :=
  match votes c shard tx with
  | none => c
  | some k => match c.2.2.2.1[k]? with
    | none => c
    | some j => votedC c k j shard yes
theorem votes_some {c : Co} {shard tx : Int} {k : Nat} (h : votes c shard tx = some k) : ∃ hk : k < c.2.2.2.1.length, c.2.2.2.1[k].1 = tx ∧ c.2.2.2.1[k].2.2.1 = 1 ∧ c.2.2.2.2.1.length < 1000 ∧ shard ∈ shardsOf c.1 c.2.2.2.1[k].2.1 ∧ jobAt c.2.2.2.1 tx = some k := by
  unfold votes at h
  cases e : jobAt c.2.2.2.1 tx with
  | none => rw [e] at h; cases h
  | some i =>
    rw [e] at h
    obtain ⟨hi, h1, _⟩ := findIdx_some e
    simp only [List.getElem?_eq_getElem hi] at h
    split at h
    · rename_i hc
      cases h
      exact ⟨hi, of_decide_eq_true h1, hc.1, hc.2.1, hc.2.2, rfl⟩
    · cases h
theorem voteS_eq {c : Co} {shard tx : Int} {yes : Bool} {k : Nat} (h : votes c shard tx = some k) (hk : k < c.2.2.2.1.length) : voteS c shard tx yes = votedC c k c.2.2.2.1[k] shard yes := by
  unfold voteS
  rw [h]
  simp only [List.getElem?_eq_getElem hk]
theorem voteS_none {c : Co} {shard tx : Int} {yes : Bool} (h : votes c shard tx = none) : voteS c shard tx yes = c := by unfold voteS; rw [h]
theorem putI_yes {list yes : List Int} {s : Int} (h : yesOk list none yes = true) (hs : s ∈ list) : yesOk list none (putI yes s) = true := by
  rw [yesOk_iff] at h ⊢
  refine ⟨fun x hx => ?_, putI_asc h.2.1 _, fun q e => by cases e⟩
  rcases (putI_mem yes s x).1 hx with e | e
  · exact h.1 x e
  · rw [e]; exact hs
theorem votedJ_tx (j : Jb) (list : List Int) (shard : Int) (yes : Bool) : (votedJ j list shard yes).1.1 = j.1 ∧ (votedJ j list shard yes).1.2.1 = j.2.1 := by
  unfold votedJ
  split
  · split <;> exact ⟨rfl, rfl⟩
  · exact ⟨rfl, rfl⟩
theorem rise_unlike {l : List Jb} (h : (l.map fun j => j.1).Pairwise (· < ·)) {i k : Nat} (hi : i < l.length) (hk : k < l.length) (hne : i ≠ k) : l[i].1 ≠ l[k].1 := by
  have h1 := List.pairwise_iff_getElem.1 h
  simp only [List.length_map, List.getElem_map] at h1
  rcases Nat.lt_or_ge i k with e | e
  · have := h1 i k hi hk e; omega
  · have := h1 k i hk hi (by omega); omega
theorem set_same_tx {l : List Jb} {k : Nat} {j : Jb} (hk : k < l.length) (h : j.1 = l[k].1) : ((l.set k j).map fun j => j.1) = l.map fun j => j.1 := by
  rw [List.map_set]
  refine List.ext_getElem (by simp) fun i h1 h2 => ?_
  rw [List.getElem_set]
  split
  · rename_i e; subst e; simp [h]
  · rfl
theorem voted_right {c : Co} {k : Nat} {shard : Int} {yes : Bool} (h : RightCo c) (hk : k < c.2.2.2.1.length) (h1 : c.2.2.2.1[k].2.2.1 = 1) (hl : c.2.2.2.2.1.length < 1000) (hs : shard ∈ shardsOf c.1 c.2.2.2.1[k].2.1) : RightCo (votedC c k c.2.2.2.1[k] shard yes) := by
  have hj := h.jobs _ (List.getElem_mem hk)
  have hnone : choice c.2.2.2.2.1 c.2.2.2.1[k].1 = none := by
    have := hj.said
    rw [h1] at this
    cases e : choice c.2.2.2.2.1 c.2.2.2.1[k].1 with
    | none => rfl
    | some y => rw [e] at this; cases y <;> simp [stateOk] at this
  have hnot : ∀ y, (c.2.2.2.1[k].1, y) ∉ c.2.2.2.2.1 := fun y hm => by rw [choice_of_mem h.nodup hm] at hnone; cases hnone
  have hlife := h.life
  obtain ⟨r, hr⟩ : ∃ r, votedJ c.2.2.2.1[k] (shardsOf c.1 c.2.2.2.1[k].2.1) shard yes = r := ⟨_, rfl⟩
  have htx := votedJ_tx c.2.2.2.1[k] (shardsOf c.1 c.2.2.2.1[k].2.1) shard yes
  rw [hr] at htx
  have hlog : ∀ x ∈ addCh c.2.2.2.2.1 c.2.2.2.1[k].1 r.2, x ∈ c.2.2.2.2.1 ∨ x.1 = c.2.2.2.1[k].1 := fun x hx => by
    cases e : r.2 with
    | none => rw [e] at hx; exact .inl hx
    | some y =>
      rw [e] at hx
      rcases List.mem_append.1 hx with hx | hx
      · exact .inl hx
      · have : x = (c.2.2.2.1[k].1, y) := by simpa using hx
        subst this; exact .inr rfl
  have hlen : (addCh c.2.2.2.2.1 c.2.2.2.1[k].1 r.2).length ≤ 1000 ∧ c.2.2.2.2.1.length ≤ (addCh c.2.2.2.2.1 c.2.2.2.1[k].1 r.2).length := by
    cases e : r.2 with
    | none => exact ⟨by show c.2.2.2.2.1.length ≤ 1000; omega, Nat.le_refl _⟩
    | some y => unfold addCh; simp only [List.length_append, List.length_cons, List.length_nil]; omega
  have hch : ∀ t, t ≠ c.2.2.2.1[k].1 → choice (addCh c.2.2.2.2.1 c.2.2.2.1[k].1 r.2) t = choice c.2.2.2.2.1 t := fun t ht => by
    cases e : r.2 with
    | none => rfl
    | some y => unfold addCh; rw [choice_snoc, if_neg (fun e => ht e.2)]
  have hself : stateOk r.1.2.2.1 (choice (addCh c.2.2.2.2.1 c.2.2.2.1[k].1 r.2) c.2.2.2.1[k].1) = true ∧ (1 ≤ r.1.2.2.1 ∧ r.1.2.2.1 ≤ 3) ∧ yesOk (shardsOf c.1 c.2.2.2.1[k].2.1) none r.1.2.2.2 = true := by
    rw [← hr]
    unfold votedJ
    split
    · split
      · refine ⟨?_, ⟨(by decide : (1 : Int) ≤ 2), (by decide : (2 : Int) ≤ 3)⟩, putI_yes hj.yes hs⟩
        show stateOk 2 (choice (c.2.2.2.2.1 ++ [(c.2.2.2.1[k].1, true)]) c.2.2.2.1[k].1) = true
        rw [choice_snoc, if_pos ⟨hnone, rfl⟩]; rfl
      · refine ⟨?_, hj.st, putI_yes hj.yes hs⟩
        show stateOk c.2.2.2.1[k].2.2.1 (choice c.2.2.2.2.1 c.2.2.2.1[k].1) = true
        exact hj.said
    · refine ⟨?_, ⟨(by decide : (1 : Int) ≤ 3), (by decide : (3 : Int) ≤ 3)⟩, hj.yes⟩
      show stateOk 3 (choice (c.2.2.2.2.1 ++ [(c.2.2.2.1[k].1, false)]) c.2.2.2.1[k].1) = true
      rw [choice_snoc, if_pos ⟨hnone, rfl⟩]; rfl
  have hnd : ((addCh c.2.2.2.2.1 c.2.2.2.1[k].1 r.2).map fun x => x.1).Nodup := by
    cases e : r.2 with
    | none => exact h.nodup
    | some y =>
      unfold addCh
      rw [List.map_append, List.nodup_append]
      refine ⟨h.nodup, by simp, fun a ha b hb e2 => ?_⟩
      obtain ⟨x, hx, rfl⟩ := List.mem_map.1 ha
      have hb2 : b = c.2.2.2.1[k].1 := by simpa using hb
      rw [hb2] at e2
      exact hnot x.2 (by rw [← e2]; exact hx)
  unfold votedC
  rw [hr]
  refine ⟨h.n, h.life, h.next, hlen.1, ⟨h.sure.1, by have := h.sure.2; have := hlen.2; show c.2.2.2.2.2 ≤ _; simp only []; omega⟩, fun x hx => ?_, hnd, fun j hm => ?_, ?_⟩
  · rcases hlog x hx with e | e
    · exact h.range x e
    · have a := hj.lo
      have b := hj.hi
      simp only []
      rw [e]
      exact ⟨by omega, b⟩
  · simp only [] at hm
    obtain ⟨i, hi, rfl⟩ := List.getElem_of_mem hm
    rw [List.getElem_set]
    split
    · rename_i e
      exact ⟨by rw [htx.1]; exact hj.lo, by rw [htx.1]; exact hj.hi, by rw [htx.2]; exact hj.ops, hself.2.1, by rw [htx.2]; exact hself.2.2, by rw [htx.1]; exact hself.1⟩
    · rename_i e
      have hi2 : i < c.2.2.2.1.length := by simpa using hi
      have m := h.jobs _ (List.getElem_mem hi2)
      refine ⟨m.lo, m.hi, m.ops, m.st, m.yes, ?_⟩
      simp only []
      rw [hch _ (rise_unlike h.rise hi2 hk (fun x => e x.symm))]
      exact m.said
  · simp only []
    rw [set_same_tx hk htx.1]
    exact h.rise
theorem vote_right {c : Co} {shard tx : Int} {yes : Bool} (h : RightCo c) : RightCo (voteS c shard tx yes) := by
  cases e : votes c shard tx with
  | none => rw [voteS_none e]; exact h
  | some k =>
    obtain ⟨hk, _, h1, h2, h3, _⟩ := votes_some e
    rw [voteS_eq e hk]
    exact voted_right h hk h1 h2 h3
end Go.Proofs.Yteniflajiklffaa.cos

namespace Go.Proofs.Yteniflajiklffaa.cos
open Go Go.RowKit Go.Proofs.Yteniflajiklffaa.base Go.Proofs.Yteniflajiklffaa.pairs Go.Proofs.Yteniflajiklffaa.ords Go.Proofs.Yteniflajiklffaa.lay Go.Proofs.Yteniflajiklffaa.wds
set_option linter.unusedVariables false
set_option linter.unusedSimpArgs false

end Go.Proofs.Yteniflajiklffaa.cos

namespace Go.Proofs.Yteniflajiklffaa.cos
open Go Go.RowKit Go.Proofs.Yteniflajiklffaa.base Go.Proofs.Yteniflajiklffaa.pairs Go.Proofs.Yteniflajiklffaa.ords Go.Proofs.Yteniflajiklffaa.lay Go.Proofs.Yteniflajiklffaa.wds
set_option linter.unusedVariables false
set_option linter.unusedSimpArgs false

end Go.Proofs.Yteniflajiklffaa.cos

namespace Go.Proofs.Yteniflajiklffaa.lay
open Go Go.RowKit Go.Proofs.Yteniflajiklffaa.base
set_option linter.unusedVariables false
set_option linter.unusedSimpArgs false

end Go.Proofs.Yteniflajiklffaa.lay

namespace Go.Proofs.Yteniflajiklffaa.cos
open Go Go.RowKit Go.Proofs.Yteniflajiklffaa.base Go.Proofs.Yteniflajiklffaa.pairs Go.Proofs.Yteniflajiklffaa.ords Go.Proofs.Yteniflajiklffaa.lay Go.Proofs.Yteniflajiklffaa.wds
set_option linter.unusedVariables false
set_option linter.unusedSimpArgs false

theorem opsOk_len {l : List Od} (h : opsOk l = true) : 1 ≤ l.length ∧ l.length ≤ 8 := by
  unfold opsOk at h
  simp only [Bool.and_eq_true, decide_eq_true_eq] at h
  exact h.2
end Go.Proofs.Yteniflajiklffaa.cos
