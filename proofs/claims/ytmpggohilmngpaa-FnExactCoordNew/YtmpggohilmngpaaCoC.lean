/- The specification's copy of one who decides: what is owned. -/
import Derived.Test.YtmpggohilmngpaaCoA
import Derived.Test.YtmpggohilmngpaaOrdCopy
import Derived.Deep.Onto
namespace Go.Proofs.Ytmpggohilmngpaa.cos
open Go Go.RowKit Go.Proofs.Ytmpggohilmngpaa.base Go.Proofs.Ytmpggohilmngpaa.pairs Go.Proofs.Ytmpggohilmngpaa.ords Go.Proofs.Ytmpggohilmngpaa.lay Go.Proofs.Ytmpggohilmngpaa.wds
set_option linter.unusedVariables false
set_option linter.unusedSimpArgs false

theorem infoJ : (Try.prog.info? 39).map (fun i => (i.zero, i.size, i.bytes)) = some (some (.agg #[.int .i64 0, .slice none 0 0, .int .i64 0, .slice none 0 0]), 4, 64) := by kernel_rfl
theorem infoC : (Try.prog.info? 42).map (fun i => (i.zero, i.size, i.bytes)) = some (some (.agg #[.int .i64 0, .bool false]), 2, 16) := by kernel_rfl
theorem append_nothingC (w : World) (g c : Nat) (ty : TypeId) : (Builtin.append_ #[23, 23] ty #[.slice (some ⟨g, 0, none⟩) 0 0, .slice none 0 c]).run Try.prog w = .ok (.slice (some ⟨g, 0, none⟩) 0 0) w := by kernel_rfl
theorem append_nothingZ (w : World) (g c : Nat) (ty : TypeId) : (Builtin.append_ #[37, 37] ty #[.slice (some ⟨g, 0, none⟩) 0 0, .slice none 0 c]).run Try.prog w = .ok (.slice (some ⟨g, 0, none⟩) 0 0) w := by kernel_rfl
def chVals (l : List Ch) : List Value := l.flatMap fun c => [.int .i64 c.1, .bool c.2]
theorem chVals_length (l : List Ch) : (chVals l).length = l.length * 2 := by
  induction l with
  | nil => rfl
  | cons x l ih => simp only [chVals, List.flatMap_cons, List.length_append] at *; simp [ih]; omega
theorem chVals_one (l : List Ch) : ∀ u ∈ chVals l, u.oneCell' = true := by
  intro u hu
  obtain ⟨c, _, hc⟩ := List.mem_flatMap.1 hu
  simp only [List.mem_cons, List.not_mem_nil, or_false] at hc
  rcases hc with rfl | rfl <;> rfl
theorem chVals_get (l : List Ch) : ∀ i (hi : i < l.length), (chVals l)[i * 2]? = some (.int .i64 l[i].1) ∧ (chVals l)[i * 2 + 1]? = some (.bool l[i].2) := by
  induction l with
  | nil => intro i hi; simp at hi
  | cons x l ih =>
    intro i hi
    cases i with
    | zero => exact ⟨rfl, rfl⟩
    | succ i =>
      have h := ih i (by simpa using hi)
      have e : chVals (x :: l) = .int .i64 x.1 :: .bool x.2 :: chVals l := rfl
      rw [e, show (i + 1) * 2 = i * 2 + 1 + 1 by omega, show i * 2 + 1 + 1 + 1 = (i * 2 + 1) + 1 + 1 by omega]
      simpa using h
theorem cells_ch {w : World} {b off len : Nat} {l : List Ch} (h : SlG chR w (some ⟨b, off, none⟩) len l) : ∀ j u, (chVals l)[j]? = some u → w.cell? ((⟨b, off, none⟩ : Addr).add j) = some u := by
  intro j u hj
  have hlt : j < l.length * 2 := by
    rw [← chVals_length]
    exact (List.getElem?_eq_some_iff.1 hj).1
  obtain ⟨i, hi | hi⟩ : ∃ i, j = i * 2 ∨ j = i * 2 + 1 := ⟨j / 2, by omega⟩
  · subst hi
    have h1 := ch_at h i (by omega)
    have h2 := (chVals_get l i (by omega)).1
    rw [hj] at h2
    cases h2
    rw [Addr.add_lit]; exact h1.1
  · subst hi
    have h1 := ch_at h i (by omega)
    have h2 := (chVals_get l i (by omega)).2
    rw [hj] at h2
    cases h2
    rw [Addr.add_lit, ← Nat.add_assoc]; exact h1.2
theorem BoxJ.fz {X : Nat} {tx st : Int} {v y : Value} {w : World} (h : BoxJ X tx st v y w) (j : Nat) : w.frozen? ⟨X, j, none⟩ = false := by unfold BoxJ at h; simp [World.frozen?, h]
theorem boxJ_set1 {X : Nat} {tx st : Int} {v y : Value} {w : World} (h : BoxJ X tx st v y w) (u : Value) : BoxJ X tx st u y (w.setCell ⟨X, 1, none⟩ u) ∧ w.grownBy (w.setCell ⟨X, 1, none⟩ u) (some X) := set_cur h 1 u
theorem boxJ_set3 {X : Nat} {tx st : Int} {v y : Value} {w : World} (h : BoxJ X tx st v y w) (u : Value) : BoxJ X tx st v u (w.setCell ⟨X, 3, none⟩ u) ∧ w.grownBy (w.setCell ⟨X, 3, none⟩ u) (some X) := set_cur h 3 u
/-- what the copy holds while its jobs are copied -/
structure CopyAt (w V : World) (n life next sure : Int) (ja : Option Addr) (jn jc : Nat) (la : Option Addr) (ln lc : Nat) (k gj jcap gl lcap : Nat) (jobs : List Jb) (log : List Ch) (q ql : Parts) : Prop where
  bel : Below w.heap.size w V
  p : BoxC w.heap.size n life next sure ja jn jc la ln lc V
  r : BoxC (w.heap.size + 1) 0 0 0 0 none 0 0 none 0 0 V
  o : BoxC (w.heap.size + 1 + 1) n life next sure (some ⟨gj, 0, none⟩) k jcap (some ⟨gl, 0, none⟩) ln lcap V
  jobs : OwnG 39 jobR V (.slice (some ⟨gj, 0, none⟩) k jcap) jobs q
  log : OwnG 42 chR V (.slice (some ⟨gl, 0, none⟩) ln lcap) log ql
  new : ∀ b ∈ gl :: gj :: blocksOf q, w.heap.size + 3 ≤ b
  ne : gl ∉ gj :: blocksOf q
section
variable {w V V' : World} {n life next sure : Int} {ja : Option Addr} {jn jc : Nat} {la : Option Addr} {ln lc k gj jcap gl lcap : Nat} {jobs : List Jb} {log : List Ch} {q ql : Parts}
theorem CopyAt.below (h : CopyAt w V n life next sure ja jn jc la ln lc k gj jcap gl lcap jobs log q ql) (hb : Below V.heap.size V V') : CopyAt w V' n life next sure ja jn jc la ln lc k gj jcap gl lcap jobs log q ql :=
  ⟨h.bel.trans (hb.mono h.bel.size), h.p.below hb, h.r.below hb, h.o.below hb, h.jobs.keep fun b hk => hb.block b (h.jobs.at_ b hk), h.log.keep fun b hk => hb.block b (h.log.at_ b hk), h.new, h.ne⟩
/-- a step that writes into one block that is none of these -/
theorem CopyAt.other (h : CopyAt w V n life next sure ja jn jc la ln lc k gj jcap gl lcap jobs log q ql) {g : Nat} (hg : V.grownBy V' (some g)) (h1 : w.heap.size + 3 ≤ g) (h2 : g ≠ gl) (h3 : g ∉ gj :: blocksOf q) (h4 : g ∉ blocksOf ql) : CopyAt w V' n life next sure ja jn jc la ln lc k gj jcap gl lcap jobs log q ql := by
  refine ⟨h.bel.grown hg h.bel.size (fun k e => by cases e; omega), h.p.grown hg (by simp; omega), h.r.grown hg (by simp; omega), h.o.grown hg (by simp; omega), h.jobs.keep fun b hk => hg.block b (h.jobs.at_ b hk) ?_, h.log.keep fun b hk => hg.block b (h.log.at_ b hk) ?_, h.new, h.ne⟩
  · intro e; cases e
    exact h3 (by simpa [Value.ownBlock] using hk)
  · intro e; cases e
    rcases List.mem_append.1 hk with hk | hk
    · exact h2 (by simpa [Value.ownBlock] using hk)
    · exact h4 hk
end
theorem own_row_at {w : World} {base : Nat} {e : TypeId} {size n : Nat} {v : Value} {xs : List Value} (h : w.ownsRow base e size v n xs) (h0 : ¬ v = .slice none 0 0) : ∃ g cap, v = .slice (some ⟨g, 0, none⟩) n cap ∧ base ≤ g := by
  rcases h.2 with ⟨e, _⟩ | ⟨g, cap, cur, e, hb, _⟩
  · exact absurd e h0
  · exact ⟨g, cap, e, hb⟩
theorem log_own {w : World} {base g n cap : Nat} {l : List Ch} (hl : l.length = n) (hw : ∀ c ∈ l, (Lit.int .i64 c.1).wf = true) (h : w.ownsRow base 42 2 (.slice (some ⟨g, 0, none⟩) n cap) n (chVals l)) : OwnG 42 chR w (.slice (some ⟨g, 0, none⟩) n cap) l (l.map fun x => ([.int .i64 x.1, .bool x.2], [])) := by
  subst hl
  exact flat_ch.made (h.mono (Nat.zero_le _)) fun c hc => ⟨hw c hc, trivial⟩
theorem log_blocks (l : List Ch) : blocksOf (l.map fun x => ([Value.int .i64 x.1, .bool x.2], ([] : List Nat))) = [] := by
  unfold blocksOf; rw [List.flatMap_map]; simp
theorem log_wf {w : World} {a : Option Addr} {len : Nat} {l : List Ch} (h : SlG chR w a len l) : ∀ c ∈ l, (Lit.int .i64 c.1).wf = true := fun c hc => by
  obtain ⟨vs, hv⟩ := h.2.2.1 c hc
  exact (flat_ch.see.1 hv).2.1
theorem boxC_set3 {X : Nat} {n life next sure : Int} {ja : Option Addr} {jn jc : Nat} {la : Option Addr} {ln lc : Nat} {w : World} (h : BoxC X n life next sure ja jn jc la ln lc w) (a : Option Addr) (k m : Nat) : BoxC X n life next sure a k m la ln lc (w.setCell ⟨X, 3, none⟩ (.slice a k m)) ∧ w.grownBy (w.setCell ⟨X, 3, none⟩ (.slice a k m)) (some X) := set_cur h 3 _
theorem boxC_set4 {X : Nat} {n life next sure : Int} {ja : Option Addr} {jn jc : Nat} {la : Option Addr} {ln lc : Nat} {w : World} (h : BoxC X n life next sure ja jn jc la ln lc w) (a : Option Addr) (k m : Nat) : BoxC X n life next sure ja jn jc a k m (w.setCell ⟨X, 4, none⟩ (.slice a k m)) ∧ w.grownBy (w.setCell ⟨X, 4, none⟩ (.slice a k m)) (some X) := set_cur h 4 _
abbrev put6 (w : World) (X : Nat) (a b c d e f : Value) : World := (((((w.setCell ⟨X, 0, none⟩ a).setCell ⟨X, 1, none⟩ b).setCell ⟨X, 2, none⟩ c).setCell ⟨X, 3, none⟩ d).setCell ⟨X, 4, none⟩ e).setCell ⟨X, 5, none⟩ f
theorem boxC_set6 {X : Nat} {n life next sure : Int} {ja : Option Addr} {jn jc : Nat} {la : Option Addr} {ln lc : Nat} {w : World} (h : BoxC X n life next sure ja jn jc la ln lc w) (n' life' next' sure' : Int) (ja' : Option Addr) (jn' jc' : Nat) (la' : Option Addr) (ln' lc' : Nat) :
    BoxC X n' life' next' sure' ja' jn' jc' la' ln' lc' (put6 w X (.int .i64 n') (.int .i64 life') (.int .i64 next') (.slice ja' jn' jc') (.slice la' ln' lc') (.int .i64 sure')) ∧ w.grownBy (put6 w X (.int .i64 n') (.int .i64 life') (.int .i64 next') (.slice ja' jn' jc') (.slice la' ln' lc') (.int .i64 sure')) (some X) := by
  have s0 := set_cur h 0 (.int .i64 n')
  have s1 := set_cur s0.1 1 (.int .i64 life')
  have s2 := set_cur s1.1 2 (.int .i64 next')
  have s3 := set_cur s2.1 3 (.slice ja' jn' jc')
  have s4 := set_cur s3.1 4 (.slice la' ln' lc')
  have s5 := set_cur s4.1 5 (.int .i64 sure')
  exact ⟨s5.1, grownBy_trans (grownBy_trans (grownBy_trans (grownBy_trans (grownBy_trans s0.2 s1.2) s2.2) s3.2) s4.2) s5.2⟩
theorem job_wf {w : World} {a : Option Addr} {len : Nat} {l : List Jb} (h : SlG jobR w a len l) (i : Nat) (hi : i < l.length) : (Lit.int .i64 l[i].1).wf = true ∧ (Lit.int .i64 l[i].2.2.1).wf = true ∧ (∀ o ∈ l[i].2.1, smallO o) ∧ ∀ z ∈ l[i].2.2.2, (Lit.int .i64 z).wf = true := by
  obtain ⟨vs, hv⟩ := h.2.2.1 l[i] (List.getElem_mem hi)
  obtain ⟨oa, ol, oc, ya, yl, yc, _, k1, k3, h5, h6, _⟩ := job_see.1 hv
  exact ⟨k1, k3, h5.1.2.2.1, h6.2⟩
/-- what the copy answers -/
def CopyPost (w : World) (jn ln : Nat) (c : Co) (e : Ending) (w' : World) : Prop := ∃ gj jcap gl lcap q ql, e = .returned (coV c.1 c.2.1 c.2.2.1 c.2.2.2.2.2 (some ⟨gj, 0, none⟩) jn jcap (some ⟨gl, 0, none⟩) ln lcap) ∧ OwnG 39 jobR w' (.slice (some ⟨gj, 0, none⟩) jn jcap) c.2.2.2.1 q ∧ OwnG 42 chR w' (.slice (some ⟨gl, 0, none⟩) ln lcap) c.2.2.2.2.1 ql ∧ (∀ b ∈ gl :: gj :: blocksOf q, w.heap.size ≤ b) ∧ gl ∉ gj :: blocksOf q ∧ Below w.heap.size w w'
end Go.Proofs.Ytmpggohilmngpaa.cos
