/- The specification's copy of one who decides: what is owned. -/
import Derived.Test.YteniflajiklffaaShae
import Derived.Deep.Onto
namespace Go.Proofs.Yteniflajiklffaa.cos
open Go Go.RowKit Go.Proofs.Yteniflajiklffaa.base Go.Proofs.Yteniflajiklffaa.pairs Go.Proofs.Yteniflajiklffaa.ords Go.Proofs.Yteniflajiklffaa.lay Go.Proofs.Yteniflajiklffaa.wds
set_option linter.unusedVariables false
set_option linter.unusedSimpArgs false

theorem infoJ : (Try.prog.info? 65).map (fun i => (i.zero, i.size, i.bytes)) = some (some (.agg #[.int .i64 0, .slice none 0 0, .int .i64 0, .slice none 0 0]), 4, 64) := by kernel_rfl
theorem infoC : (Try.prog.info? 42).map (fun i => (i.zero, i.size, i.bytes)) = some (some (.agg #[.int .i64 0, .bool false]), 2, 16) := by kernel_rfl
theorem append_nothingC (w : World) (g c : Nat) (ty : TypeId) : (Builtin.append_ #[25, 25] ty #[.slice (some ⟨g, 0, none⟩) 0 0, .slice none 0 c]).run Try.prog w = .ok (.slice (some ⟨g, 0, none⟩) 0 0) w := by kernel_rfl
theorem append_nothingZ (w : World) (g c : Nat) (ty : TypeId) : (Builtin.append_ #[34, 34] ty #[.slice (some ⟨g, 0, none⟩) 0 0, .slice none 0 c]).run Try.prog w = .ok (.slice (some ⟨g, 0, none⟩) 0 0) w := by kernel_rfl
def chVals (l : List Ch) : List Value := l.flatMap fun c => [.int .i64 c.1, .bool c.2]
theorem chVals_length (l : List Ch) : (chVals l).length = l.length * 2 := by
  induction l with
  | nil => rfl
  | cons x l ih => simp only [chVals, List.flatMap_cons, List.length_append] at *; simp [ih]; omega
theorem chVals_one (l : List Ch) : ∀ u ∈ chVals l, u.oneCell' = true := by
  intro u hu
  obtain ⟨c, _, hc⟩ := List.mem_flatMap.1 hu
  simp only [List.mem_cons, List.not_mem_nil, or_false] at hc
  rcases hc with rfl | rfl <;> rfl
theorem chVals_get (l : List Ch) : ∀ i (hi : i < l.length), (chVals l)[i * 2]? = some (.int .i64 l[i].1) ∧ (chVals l)[i * 2 + 1]? = some (.bool l[i].2) := by
  induction l with
  | nil => intro i hi; simp at hi
  | cons x l ih =>
    intro i hi
    cases i with
    | zero => exact ⟨rfl, rfl⟩
    | succ i =>
      have h := ih i (by simpa using hi)
      have e : chVals (x :: l) = .int .i64 x.1 :: .bool x.2 :: chVals l := rfl
      rw [e, show (i + 1) * 2 = i * 2 + 1 + 1 by omega, show i * 2 + 1 + 1 + 1 = (i * 2 + 1) + 1 + 1 by omega]
      simpa using h
theorem cells_ch {w : World} {b off len : Nat} {l : List Ch} (h : SlG chR w (some ⟨b, off, none⟩) len l) : ∀ j u, (chVals l)[j]? = some u → w.cell? ((⟨b, off, none⟩ : Addr).add j) = some u := by
  intro j u hj
  have hlt : j < l.length * 2 := by
    rw [← chVals_length]
    exact (List.getElem?_eq_some_iff.1 hj).1
  obtain ⟨i, hi | hi⟩ : ∃ i, j = i * 2 ∨ j = i * 2 + 1 := ⟨j / 2, by omega⟩
  · subst hi
    have h1 := ch_at h i (by omega)
    have h2 := (chVals_get l i (by omega)).1
    rw [hj] at h2
    cases h2
    rw [Addr.add_lit]; exact h1.1
  · subst hi
    have h1 := ch_at h i (by omega)
    have h2 := (chVals_get l i (by omega)).2
    rw [hj] at h2
    cases h2
    rw [Addr.add_lit, ← Nat.add_assoc]; exact h1.2
theorem BoxJ.fz {X : Nat} {tx st : Int} {v y : Value} {w : World} (h : BoxJ X tx st v y w) (j : Nat) : w.frozen? ⟨X, j, none⟩ = false := by unfold BoxJ at h; simp [World.frozen?, h]
theorem boxJ_set1 {X : Nat} {tx st : Int} {v y : Value} {w : World} (h : BoxJ X tx st v y w) (u : Value) : BoxJ X tx st u y (w.setCell ⟨X, 1, none⟩ u) ∧ w.grownBy (w.setCell ⟨X, 1, none⟩ u) (some X) := set_cur h 1 u
theorem boxJ_set3 {X : Nat} {tx st : Int} {v y : Value} {w : World} (h : BoxJ X tx st v y w) (u : Value) : BoxJ X tx st v u (w.setCell ⟨X, 3, none⟩ u) ∧ w.grownBy (w.setCell ⟨X, 3, none⟩ u) (some X) := set_cur h 3 u
structure CopyAt (w V : World) (n life next sure : Int) (ja : Option Addr) (jn jc : Nat) (la : Option Addr) (ln lc : Nat) (k gj jcap gl lcap : Nat) (jobs : List Jb) (log : List Ch) (q ql : Parts) : Prop where
  bel : Below w.heap.size w V
  p : BoxC w.heap.size n life next sure ja jn jc la ln lc V
  r : BoxC (w.heap.size + 1) 0 0 0 0 none 0 0 none 0 0 V
  o : BoxC (w.heap.size + 1 + 1) n life next sure (some ⟨gj, 0, none⟩) k jcap (some ⟨gl, 0, none⟩) ln lcap V
  jobs : OwnG 65 jobR V (.slice (some ⟨gj, 0, none⟩) k jcap) jobs q
  log : OwnG 42 chR V (.slice (some ⟨gl, 0, none⟩) ln lcap) log ql
  new : ∀ b ∈ gl :: gj :: blocksOf q, w.heap.size + 3 ≤ b
  ne : gl ∉ gj :: blocksOf q
section
variable {w V V' : World} {n life next sure : Int} {ja : Option Addr} {jn jc : Nat} {la : Option Addr} {ln lc k gj jcap gl lcap : Nat} {jobs : List Jb} {log : List Ch} {q ql : Parts}
theorem CopyAt.below (h : CopyAt w V n life next sure ja jn jc la ln lc k gj jcap gl lcap jobs log q ql) (hb : Below V.heap.size V V') : CopyAt w V' n life next sure ja jn jc la ln lc k gj jcap gl lcap jobs log q ql :=
  ⟨h.bel.trans (hb.mono h.bel.size), h.p.below hb, h.r.below hb, h.o.below hb, h.jobs.keep fun b hk => hb.block b (h.jobs.at_ b hk), h.log.keep fun b hk => hb.block b (h.log.at_ b hk), h.new, h.ne⟩
theorem CopyAt.other (h : CopyAt w V n life next sure ja jn jc la ln lc k gj jcap gl lcap jobs log q ql) {g : Nat} (hg : V.grownBy V' (some g)) (h1 : w.heap.size + 3 ≤ g) (h2 : g ≠ gl) (h3 : g ∉ gj :: blocksOf q) (h4 : g ∉ blocksOf ql) : CopyAt w V' n life next sure ja jn jc la ln lc k gj jcap gl lcap jobs log q ql := by
  refine ⟨h.bel.grown hg h.bel.size (fun k e => by cases e; omega), h.p.grown hg (by simp; omega), h.r.grown hg (by simp; omega), h.o.grown hg (by simp; omega), h.jobs.keep fun b hk => hg.block b (h.jobs.at_ b hk) ?_, h.log.keep fun b hk => hg.block b (h.log.at_ b hk) ?_, h.new, h.ne⟩
  · intro e; cases e
    exact h3 (by simpa [Value.ownBlock] using hk)
  · intro e; cases e
    rcases List.mem_append.1 hk with hk | hk
    · exact h2 (by simpa [Value.ownBlock] using hk)
    · exact h4 hk
end
theorem own_row_at {w : World} {base : Nat} {e : TypeId} {size n : Nat} {v : Value} {xs : List Value} (h : w.ownsRow base e size v n xs) (h0 : ¬ v = .slice none 0 0) : ∃ g cap, v = .slice (some ⟨g, 0, none⟩) n cap ∧ base ≤ g := by
  rcases h.2 with ⟨e, _⟩ | ⟨g, cap, cur, e, hb, _⟩
  · exact absurd e h0
  · exact ⟨g, cap, e, hb⟩
theorem log_own {w : World} {base g n cap : Nat} {l : List Ch} (hl : l.length = n) (hw : ∀ c ∈ l, (Lit.int .i64 c.1).wf = true) (h : w.ownsRow base 42 2 (.slice (some ⟨g, 0, none⟩) n cap) n (chVals l)) : OwnG 42 chR w (.slice (some ⟨g, 0, none⟩) n cap) l (l.map fun x => ([.int .i64 x.1, .bool x.2], [])) := by
  subst hl
  exact flat_ch.made (h.mono (Nat.zero_le _)) fun c hc => ⟨hw c hc, trivial⟩
theorem log_blocks (l : List Ch) : blocksOf (l.map fun x => ([Value.int .i64 x.1, .bool x.2], ([] : List Nat))) = [] := by
  unfold blocksOf; rw [List.flatMap_map]; simp
theorem log_wf {w : World} {a : Option Addr} {len : Nat} {l : List Ch} (h : SlG chR w a len l) : ∀ c ∈ l, (Lit.int .i64 c.1).wf = true := fun c hc => by
  obtain ⟨vs, hv⟩ := h.2.2.1 c hc
  exact (flat_ch.see.1 hv).2.1
theorem boxC_set3 {X : Nat} {n life next sure : Int} {ja : Option Addr} {jn jc : Nat} {la : Option Addr} {ln lc : Nat} {w : World} (h : BoxC X n life next sure ja jn jc la ln lc w) (a : Option Addr) (k m : Nat) : BoxC X n life next sure a k m la ln lc (w.setCell ⟨X, 3, none⟩ (.slice a k m)) ∧ w.grownBy (w.setCell ⟨X, 3, none⟩ (.slice a k m)) (some X) := set_cur h 3 _
theorem boxC_set4 {X : Nat} {n life next sure : Int} {ja : Option Addr} {jn jc : Nat} {la : Option Addr} {ln lc : Nat} {w : World} (h : BoxC X n life next sure ja jn jc la ln lc w) (a : Option Addr) (k m : Nat) : BoxC X n life next sure ja jn jc a k m (w.setCell ⟨X, 4, none⟩ (.slice a k m)) ∧ w.grownBy (w.setCell ⟨X, 4, none⟩ (.slice a k m)) (some X) := set_cur h 4 _
abbrev put6 (w : World) (X : Nat) (a b c d e f : Value) : World := (((((w.setCell ⟨X, 0, none⟩ a).setCell ⟨X, 1, none⟩ b).setCell ⟨X, 2, none⟩ c).setCell ⟨X, 3, none⟩ d).setCell ⟨X, 4, none⟩ e).setCell ⟨X, 5, none⟩ f
theorem boxC_set6 {X : Nat} {n life next sure : Int} {ja : Option Addr} {jn jc : Nat} {la : Option Addr} {ln lc : Nat} {w : World} (h : BoxC X n life next sure ja jn jc la ln lc w) (n' life' next' sure' : Int) (ja' : Option Addr) (jn' jc' : Nat) (la' : Option Addr) (ln' lc' : Nat) :
    BoxC X n' life' next' sure' ja' jn' jc' la' ln' lc' (put6 w X (.int .i64 n') (.int .i64 life') (.int .i64 next') (.slice ja' jn' jc') (.slice la' ln' lc') (.int .i64 sure')) ∧ w.grownBy (put6 w X (.int .i64 n') (.int .i64 life') (.int .i64 next') (.slice ja' jn' jc') (.slice la' ln' lc') (.int .i64 sure')) (some X) := by
  have s0 := set_cur h 0 (.int .i64 n')
  have s1 := set_cur s0.1 1 (.int .i64 life')
  have s2 := set_cur s1.1 2 (.int .i64 next')
  have s3 := set_cur s2.1 3 (.slice ja' jn' jc')
  have s4 := set_cur s3.1 4 (.slice la' ln' lc')
  have s5 := set_cur s4.1 5 (.int .i64 sure')
  exact ⟨s5.1, grownBy_trans (grownBy_trans (grownBy_trans (grownBy_trans (grownBy_trans s0.2 s1.2) s2.2) s3.2) s4.2) s5.2⟩
theorem job_wf {w : World} {a : Option Addr} {len : Nat} {l : List Jb} (h : SlG jobR w a len l) (i : Nat) (hi : i < l.length) : (Lit.int .i64 l[i].1).wf = true ∧ (Lit.int .i64 l[i].2.2.1).wf = true ∧ (∀ o ∈ l[i].2.1, smallO o) ∧ ∀ z ∈ l[i].2.2.2, (Lit.int .i64 z).wf = true := by
  obtain ⟨vs, hv⟩ := h.2.2.1 l[i] (List.getElem_mem hi)
  obtain ⟨oa, ol, oc, ya, yl, yc, _, k1, k3, h5, h6, _⟩ := job_see.1 hv
  exact ⟨k1, k3, h5.1.2.2.1, h6.2⟩
def CopyPost (w : World) (jn ln : Nat) (c : Co) (e : Ending) (w' : World) : Prop := ∃ gj jcap gl lcap q ql, e = .returned (coV c.1 c.2.1 c.2.2.1 c.2.2.2.2.2 (some ⟨gj, 0, none⟩) jn jcap (some ⟨gl, 0, none⟩) ln lcap) ∧ OwnG 65 jobR w' (.slice (some ⟨gj, 0, none⟩) jn jcap) c.2.2.2.1 q ∧ OwnG 42 chR w' (.slice (some ⟨gl, 0, none⟩) ln lcap) c.2.2.2.2.1 ql ∧ (∀ b ∈ gl :: gj :: blocksOf q, w.heap.size ≤ b) ∧ gl ∉ gj :: blocksOf q ∧ Below w.heap.size w w'
set_option maxRecDepth 100000 in
set_option maxHeartbeats 2000000 in
theorem spec_copy (ja : Option Addr) (jn jc : Nat) (la : Option Addr) (ln lc : Nat) (c : Co) (w : World) (h : SeeCo w ja jn jc la ln lc c) (hf : FitsCo c) (hyf : ∀ j ∈ c.2.2.2.1, j.2.2.2.length ≤ 1099511627776) :
    Calls Try.prog 33 #[coV c.1 c.2.1 c.2.2.1 c.2.2.2.2.2 ja jn jc la ln lc] w fun e w' => CopyPost w jn ln c e w' := by
  obtain ⟨n, life, next, jobs, log, sure⟩ := c
  simp only [] at *
  have hlog : SlG chR w la ln log := h.log
  have hll := hlog.1
  have hjl : jobs.length = jn := h.jobs.1
  have hff : log.length ≤ 1099511627776 := hf.2.1
  have hjf : jobs.length ≤ 1099511627776 := hf.1
  have HWF := Hid.mk' (log_wf hlog)
  have HFJ : Hid (∀ j ∈ jobs, j.2.1.length ≤ 1099511627776 ∧ (∀ p ∈ j.2.1, p.2.1.size ≤ 1099511627776)) := hf.2.2
  have HYF : Hid (∀ j ∈ jobs, j.2.2.2.length ≤ 1099511627776) := hyf
  obtain ⟨iC, hiC, hC0, hC1, hC2⟩ := info_parts infoC
  obtain ⟨iJ, hiJ, iJ0, iJ1, iJ2⟩ := info_parts infoJ
  have HSE := Hid.mk' (fun wx (hx : Below w.heap.size w wx) => (h.below hx).jobs)
  cases la with
  | none =>
    have h0 : ln = 0 := by
      rcases Nat.eq_zero_or_pos ln with e | e
      · exact e
      · obtain ⟨b, off, ha, _⟩ := hlog.2.2.2 e; cases ha
    subst h0
    have hl0 : log = [] := List.eq_nil_of_length_eq_zero hll
    have hanc := append_nothingC
    obtain ⟨V0, hV0⟩ : ∃ V0, ((((w.alloc (coO n life next sure ja jn jc none 0 lc)).alloc (coO 0 0 0 0 none 0 0 none 0 0)).alloc (coO n life next sure (some ⟨w.heap.size + 1 + 1 + 1 + 1, 0, none⟩) 0 0 (some ⟨w.heap.size + 1 + 1 + 1, 0, none⟩) 0 0)).alloc (.cells #[] 42)).alloc (.cells #[] 65) = V0 := ⟨_, rfl⟩
    have HV0 := Hid.mk' hV0
    have HA : Hid (CopyAt w V0 n life next sure ja jn jc none 0 lc 0 (w.heap.size + 1 + 1 + 1 + 1) 0 (w.heap.size + 1 + 1 + 1) 0 (jobs.take 0) [] [] []) := by
      rw [← hV0]
      have e1 : (w.alloc (coO n life next sure ja jn jc none 0 lc)).heap.size = w.heap.size + 1 := by simp
      have e2 : ((w.alloc (coO n life next sure ja jn jc none 0 lc)).alloc (coO 0 0 0 0 none 0 0 none 0 0)).heap.size = w.heap.size + 1 + 1 := by simp
      have hr := boxC_new (w.alloc (coO n life next sure ja jn jc none 0 lc)) 0 0 0 0 none 0 0 none 0 0
      have ho := boxC_new ((w.alloc (coO n life next sure ja jn jc none 0 lc)).alloc (coO 0 0 0 0 none 0 0 none 0 0)) n life next sure (some ⟨w.heap.size + 1 + 1 + 1 + 1, 0, none⟩) 0 0 (some ⟨w.heap.size + 1 + 1 + 1, 0, none⟩) 0 0
      rw [e1] at hr
      rw [e2] at ho
      generalize hU : ((w.alloc (coO n life next sure ja jn jc none 0 lc)).alloc (coO 0 0 0 0 none 0 0 none 0 0)).alloc (coO n life next sure (some ⟨w.heap.size + 1 + 1 + 1 + 1, 0, none⟩) 0 0 (some ⟨w.heap.size + 1 + 1 + 1, 0, none⟩) 0 0) = U at *
      have hsU : U.heap.size = w.heap.size + 1 + 1 + 1 := by rw [← hU]; simp
      have hBU : Below w.heap.size w U := by rw [← hU]; exact (((Below.refl _ _).alloc (Nat.le_refl _) _).alloc (by simp) _).alloc (by simp; omega) _
      have hpU : BoxC w.heap.size n life next sure ja jn jc none 0 lc U := by rw [← hU]; exact ((boxC_new w _ _ _ _ _ _ _ _ _ _).below (below_new _ _)).below (below_new _ _)
      have hrU : BoxC (w.heap.size + 1) 0 0 0 0 none 0 0 none 0 0 U := by rw [← hU]; exact hr.below (below_new _ _)
      have hc1 := below_new U (.cells #[] 42)
      have hq1 := ownG_made 42 chR U
      rw [hsU] at hq1
      have hs2 : (U.alloc (.cells #[] 42)).heap.size = w.heap.size + 1 + 1 + 1 + 1 := by simp; omega
      have hc2 := below_new (U.alloc (.cells #[] 42)) (.cells #[] 65)
      have hq2 := ownG_made 65 jobR (U.alloc (.cells #[] 42))
      rw [hs2] at hq2
      have hB1 := hBU.trans (hc1.mono hBU.size)
      refine ⟨hB1.trans (hc2.mono hB1.size), (hpU.below hc1).below hc2, (hrU.below hc1).below hc2, (ho.below hc1).below hc2, hq2, hq1.keep fun b hk => hc2.block b (hq1.at_ b hk), ?_, ?_⟩
      · intro b hb
        simp [blocksOf] at hb
        omega
      · simp [blocksOf]
    obtain ⟨gl, lcap, ql, gj0, HA, hqb⟩ : ∃ gl lcap ql gj0, Hid (CopyAt w V0 n life next sure ja jn jc none 0 lc 0 gj0 0 gl lcap (jobs.take 0) log [] ql) ∧ blocksOf ql = [] := ⟨_, _, _, _, by rw [hl0]; exact HA, rfl⟩
    clear hl0 hV0 hlog h
    go_enter Try.func33, Try.ntmps33
    go_wp2_with fail
    rw [HV0.out]
    go_loopw [4] (fun i wr => ∃ (k gj jcap : Nat) (q : Parts), k ≤ jn ∧ i = .int .i64 (k : Int) ∧ CopyAt w wr n life next sure ja jn jc none 0 lc k gj jcap gl lcap (jobs.take k) log q ql) (fun i _ => jn - (intOf i).toNat)
    case atStart => exact ⟨0, _, 0, [], Nat.zero_le _, rfl, HA.out⟩
    case round =>
      clear HA HV0
      obtain ⟨k, gj, jcap, q, hk, rfl, hA⟩ := hrel
      obtain ⟨x0, x1, x2, x3, x4, x5⟩ := hA.p.cells
      by_cases hlt : k < jn
      · have hltl : k < jobs.length := by omega
        have hki : (k : Int) < (jn : Int) := by omega
        have hjs : SlG jobR w ja jn jobs := HSE.out w (Below.refl _ _)
        obtain ⟨jb, joff, e⟩ := slg_some hjs (by omega)
        subst e
        obtain ⟨c0, c2, ⟨oa, ol, oc, c1, hOo, hoc⟩, ya, yl, yc, c3, hYy, hyc⟩ := job_at hjs k hltl
        replace c0 := (hA.bel.cell (World.block_lt_of_cell? w _ c0)).trans c0
        replace c1 := (hA.bel.cell (World.block_lt_of_cell? w _ c1)).trans c1
        replace c2 := (hA.bel.cell (World.block_lt_of_cell? w _ c2)).trans c2
        replace c3 := (hA.bel.cell (World.block_lt_of_cell? w _ c3)).trans c3
        have HJW := Hid.mk' (job_wf hjs k hltl)
        have hfk := HFJ.out _ (List.getElem_mem hltl)
        have hyl8 : yl ≤ 1099511627776 := by have h1 := hYy.1; have h2 := HYF.out _ (List.getElem_mem hltl); omega
        have hol : ol ≤ 1099511627776 := by have h1 := hOo.1; have h2 := hfk.1; omega
        have HTK : Hid (jobs.take (k + 1) = jobs.take k ++ [jobs[k]]) := List.take_succ_eq_append_getElem hltl
        generalize jobs[k] = jk at *
        obtain ⟨tx, ops, st, yes⟩ := jk
        simp only [] at c0 c1 c2 c3 hOo hYy HJW
        obtain ⟨V1, hV1⟩ : ∃ V1, wr.alloc (.cells #[.int .i64 tx, .slice oa ol oc, .int .i64 st, .slice ya yl yc] 65) = V1 := ⟨_, rfl⟩
        have hb1 : Below wr.heap.size wr V1 := by rw [← hV1]; exact below_new _ _
        have hJ1 : BoxJ wr.heap.size tx st (.slice oa ol oc) (.slice ya yl yc) V1 := by rw [← hV1]; exact heap_alloc_new wr _
        have HCO := Hid.mk' (spec_copyOps oa ol oc ops V1 (hOo.below (hA.bel.trans (hb1.mono hA.bel.size))) hol)
        have HV1 := Hid.mk' hV1
        have HA1 := Hid.mk' (hA.below hb1)
        have HA0 := Hid.mk' hA
        have HY0 := Hid.mk' hYy
        clear hV1 hjs hOo hYy hfk hA
        go_wp2_with fail
        rw [HV1.out]
        refine HCO.out.mono ?_
        rintro e V2 ⟨g1, cp1, rfl, hO1, hb2⟩
        have hA2 := HA1.out.below hb2
        have hJ2 := hJ1.below hb2
        have hY2 := HY0.out.below hA2.bel
        have hs1 : V1.heap.size = wr.heap.size + 1 := by rw [← HV1.out]; simp
        have hg1 := hO1.lt
        have hbr1 := hb2.size
        have hJs := boxJ_set1 hJ2 (.slice (some ⟨g1, 0, none⟩) ol cp1)
        obtain ⟨j0, j1, j2, j3⟩ := hJ2.cells
        have jf1 := hJ2.fz 1
        obtain ⟨m0, m1, m2, m3⟩ := hJs.1.cells
        have mf3 := hJs.1.fz 3
        have hjl2 := hJ2.lt
        have hA0l : ∀ b ∈ gl :: gj :: blocksOf q, b < wr.heap.size := fun b hb => by
          rcases List.mem_cons.1 hb with e | e
          · subst e; exact HA0.out.log.at_ _ (List.mem_append.2 (.inl (by simp [Value.ownBlock])))
          · rcases List.mem_cons.1 e with e | e
            · subst e; exact HA0.out.jobs.at_ _ (List.mem_append.2 (.inl (by simp [Value.ownBlock])))
            · exact HA0.out.jobs.at_ _ (List.mem_append.2 (.inr e))
        have hwr : w.heap.size + 3 ≤ wr.heap.size := by have := HA0.out.o.lt; omega
        have hnq : ∀ g, wr.heap.size ≤ g → g ≠ gl ∧ g ∉ gj :: blocksOf q ∧ g ∉ blocksOf ql := fun g hg => ⟨fun e => by have := hA0l gl (by simp); omega, fun e => by have := hA0l g (List.mem_cons_of_mem _ e); omega, by rw [hqb]; simp⟩
        have hA3 := hA2.other hJs.2 hwr (hnq _ (Nat.le_refl _)).1 (hnq _ (Nat.le_refl _)).2.1 (hnq _ (Nat.le_refl _)).2.2
        have hO3 := hO1.grown hJs.2 (by simp; omega)
        have hnw : ¬ wr.heap.size = V2.heap.size := by omega
        have hnw2 : ¬ V2.heap.size = wr.heap.size := by omega
        cases ya with
        | none =>
          have h0 : yl = 0 := by
            rcases Nat.eq_zero_or_pos yl with e | e
            · exact e
            · obtain ⟨b, off, ha, _⟩ := hY2.2.2 e; cases ha
          subst h0
          have hy0 : yes = [] := List.eq_nil_of_length_eq_zero hY2.1
          subst hy0
          have hanz := append_nothingZ
          have hJt := boxJ_set3 hJs.1 (.slice (some ⟨V2.heap.size, 0, none⟩) 0 0)
          obtain ⟨V5, hV5⟩ : ∃ V5, (V2.setCell ⟨wr.heap.size, 1, none⟩ (.slice (some ⟨g1, 0, none⟩) ol cp1)).setCell ⟨wr.heap.size, 3, none⟩ (.slice (some ⟨V2.heap.size, 0, none⟩) 0 0) = V5 := ⟨_, rfl⟩
          have hs5 : V5.heap.size = V2.heap.size := by rw [← hV5]; simp
          rw [hV5] at hJt
          obtain ⟨V6, hV6⟩ : ∃ V6, V5.alloc (.cells #[] 3) = V6 := ⟨_, rfl⟩
          have hb6 : Below V5.heap.size V5 V6 := by rw [← hV6]; exact below_new _ _
          have hA6 := (hA3.other hJt.2 hwr (hnq _ (Nat.le_refl _)).1 (hnq _ (Nat.le_refl _)).2.1 (hnq _ (Nat.le_refl _)).2.2).below hb6
          have hJ6 := hJt.1.below hb6
          have hO6 := (hO3.grown hJt.2 (by simp; omega)).below hb6
          have hZ6 : OwnZ V6 0 V2.heap.size 0 0 [] := by rw [← hV6, ← hs5]; exact (ownZ_made V5 0 (Nat.zero_le _))
          obtain ⟨V7, hV7⟩ : ∃ V7, V6.alloc (.cells #[.int .i64 tx, .slice (some ⟨g1, 0, none⟩) ol cp1, .int .i64 st, .slice (some ⟨V2.heap.size, 0, none⟩) 0 0] 65) = V7 := ⟨_, rfl⟩
          have HV7 := Hid.mk' hV7
          have hs6 : V6.heap.size = V2.heap.size + 1 := by rw [← hV6]; simp; omega
          obtain ⟨u0, u1, u2, u3, u4, u5⟩ := hA6.o.cells
          obtain ⟨i0, i1, i2, i3⟩ := hJ6.cells
          have hb7 : Below V6.heap.size V6 V7 := by rw [← hV7]; exact below_new _ _
          have hA7 := hA6.below hb7
          have hN7 : BoxJ V6.heap.size tx st (.slice (some ⟨g1, 0, none⟩) ol cp1) (.slice (some ⟨V2.heap.size, 0, none⟩) 0 0) V7 := by rw [← hV7]; exact heap_alloc_new V6 _
          rw [hs6] at hN7
          have hs7 : V7.heap.size = V6.heap.size + 1 := by rw [← hV7]; simp
          have htl : (jobs.take k).length = k := by simp; omega
          have hrow7 : V7.ownsRow 0 65 4 (.slice (some ⟨gj, 0, none⟩) k jcap) k (cellsOf q) := by have := hA7.jobs.row; rw [htl] at this; exact this
          have HNW : Hid (∀ j u, ([.int .i64 tx, .slice (some ⟨g1, 0, none⟩) ol cp1, .int .i64 st, .slice (some ⟨V2.heap.size, 0, none⟩) 0 0] : List Value)[j]? = some u → V7.cell? ((⟨V2.heap.size + 1, 0, none⟩ : Addr).add j) = some u) := by
            intro j u hj
            obtain ⟨n0, n1, n2, n3⟩ := hN7.cells
            rw [Addr.add_lit, Nat.zero_add]
            match j, hj with
            | 0, hj => cases hj; exact n0
            | 1, hj => cases hj; exact n1
            | 2, hj => cases hj; exact n2
            | 3, hj => cases hj; exact n3
          have HON : Hid (∀ u ∈ ([.int .i64 tx, .slice (some ⟨g1, 0, none⟩) ol cp1, .int .i64 st, .slice (some ⟨V2.heap.size, 0, none⟩) 0 0] : List Value), u.oneCell' = true) := by
            intro u hu
            simp only [List.mem_cons, List.not_mem_nil, or_false] at hu
            rcases hu with rfl | rfl | rfl | rfl <;> rfl
          have hc7 : k + 1 ≤ maxLen := by unfold maxLen; omega
          have hc8 : (k + 1) * 64 ≤ 140737488355328 := by omega
          have HA7 := Hid.mk' hA7
          have HO7 := Hid.mk' (ownV_of ((hO6.below hb7).mono (base' := 0) (Nat.zero_le _)))
          have HZ7 : Hid (OwnZV V7 (.slice (some ⟨V2.heap.size, 0, none⟩) 0 0) []) := ⟨HJW.out.2.2.2, by have h9 := (hZ6.below hb7).2; have h8 := (hZ6.below hb7).1; first | (rw [h8]; exact h9) | (rw [← h8] at h9; simpa using h9)⟩
          clear hA7 hA6 hN7 hb7 hO6 hZ6 hJ6 hV7
          go_wp2_with (at_builtin; rw [HV7.out]; refine wpList_append_lies _ rfl (.tmp 36) (.tmp 38) 24 rfl 0 65 iJ (.agg #[.int .i64 0, .slice none 0 0, .int .i64 0, .slice none 0 0]) 4 64 Try.underlying24 hiJ iJ0 iJ1 iJ2 rfl (by decide) _ _ _ rfl hrow7 ⟨V2.heap.size + 1, 0, none⟩ 1 1 [.int .i64 tx, .slice (some ⟨g1, 0, none⟩) ol cp1, .int .i64 st, .slice (some ⟨V2.heap.size, 0, none⟩) 0 0] ?e1 rfl HNW.out HON.out (by decide) hc7 hc8 (Nat.zero_le _) _ rfl ?_)
          case e1 => simp [Act.eval]
          intro g8 cap8 w8 hown8 hgrow8 hat8 hlt8
          have hgr8 : V7.grownBy w8 (some gj) := hgrow8
          have hnd : ([g1] ++ [V2.heap.size] : List Nat).Nodup := by simp; omega
          have hx : jobR.own V7 [.int .i64 tx, .slice (some ⟨g1, 0, none⟩) ol cp1, .int .i64 st, .slice (some ⟨V2.heap.size, 0, none⟩) 0 0] (tx, ops, st, []) ([g1] ++ [V2.heap.size]) := job_own.2 ⟨_, _, rfl, HJW.out.1, HJW.out.2.1, HO7.out, HZ7.out, rfl, hnd⟩
          have hbig : ∀ b ∈ ([g1] ++ [V2.heap.size] : List Nat), wr.heap.size ≤ b := fun b hb => by simp at hb; rcases hb with rfl | rfl <;> omega
          have hd : ∀ b ∈ ([g1] ++ [V2.heap.size] : List Nat), b ∉ (Value.slice (some ⟨gj, 0, none⟩) k jcap).ownBlock.toList ++ blocksOf q := fun b hb hc => by
            have h1 := hbig b hb
            have h2 := hA0l b (List.mem_cons_of_mem _ (by simpa [Value.ownBlock] using hc))
            omega
          have hsn := OwnG.snoc HA7.out.jobs hx hd (by rw [htl]; exact hown8) hgrow8 hat8 (by omega)
          rw [htl, ← HTK.out] at hsn
          have hnw7 := HA7.out.new
          have hgj3 : w.heap.size + 3 ≤ gj := hnw7 gj (by simp)
          have hgl3 : w.heap.size + 3 ≤ gl := hnw7 gl (by simp)
          have hne7 := HA7.out.ne
          have ho8 := HA7.out.o.grown hgr8 (by simp; omega)
          have s9 := boxC_set3 ho8 (some ⟨g8, 0, none⟩) (k + 1) cap8
          have hg83 : w.heap.size + 3 ≤ g8 := by
            rcases hat8 with e | e
            · have : gj = g8 := by simpa [Value.ownBlock] using e
              omega
            · omega
          have hB8 := HA7.out.bel.grown hgr8 HA7.out.bel.size (fun b e => by cases e; omega)
          have hL8 := HA7.out.log.keep fun b hk => hgr8.block b (HA7.out.log.at_ b hk) (by
            rw [hqb] at hk
            simp [Value.ownBlock] at hk
            subst hk
            simp
            intro e
            exact hne7 (by simp [e]))
          have HA9 : Hid (CopyAt w (w8.setCell ⟨w.heap.size + 1 + 1, 3, none⟩ (.slice (some ⟨g8, 0, none⟩) (k + 1) cap8)) n life next sure (some ⟨jb, joff, none⟩) jn jc none 0 lc (k + 1) g8 cap8 gl lcap (jobs.take (k + 1)) log (q ++ [([.int .i64 tx, .slice (some ⟨g1, 0, none⟩) ol cp1, .int .i64 st, .slice (some ⟨V2.heap.size, 0, none⟩) 0 0], [g1] ++ [V2.heap.size])]) ql) := by
            refine ⟨hB8.grown s9.2 hB8.size (fun b e => by cases e; omega), (HA7.out.p.grown hgr8 (by simp; omega)).grown s9.2 (by simp <;> omega), (HA7.out.r.grown hgr8 (by simp; omega)).grown s9.2 (by simp <;> omega), s9.1, ?_, ?_, ?_, ?_⟩
            · refine hsn.keep fun b hk => s9.2.block b (hsn.at_ b hk) ?_
              rw [blocksOf_append] at hk
              have : w.heap.size + 3 ≤ b := by
                rcases List.mem_append.1 hk with h1 | h1
                · simp [Value.ownBlock] at h1; omega
                · rcases List.mem_append.1 h1 with h2 | h2
                  · exact hnw7 b (by simp [h2])
                  · have := hbig b (by simpa [blocksOf] using h2); omega
              simp; omega
            · refine hL8.keep fun b hk => s9.2.block b (hL8.at_ b hk) ?_
              rw [hqb] at hk
              simp [Value.ownBlock] at hk
              simp; omega
            · intro b hb
              rw [blocksOf_append] at hb
              rcases List.mem_cons.1 hb with h1 | h1
              · omega
              · rcases List.mem_cons.1 h1 with h2 | h2
                · omega
                · rcases List.mem_append.1 h2 with h3 | h3
                  · exact hnw7 b (by simp [h3])
                  · have := hbig b (by simpa [blocksOf] using h3); omega
            · intro hb
              rw [blocksOf_append] at hb
              have hlw := hA0l gl (by simp)
              rcases List.mem_cons.1 hb with h1 | h1
              · rcases hat8 with e | e
                · have : gj = g8 := by simpa [Value.ownBlock] using e
                  exact hne7 (by simp [h1, this])
                · omega
              · rcases List.mem_append.1 h1 with h3 | h3
                · exact hne7 (by simp [h3])
                · have := hbig gl (by simpa [blocksOf] using h3); omega
          obtain ⟨y0, y1, y2, y3, y4, y5⟩ := ho8.cells
          have yf := ho8.fz 3
          clear hsn hx hd hown8 hgrow8 hgr8 hL8 hB8 s9 ho8 HA7 HO7 HZ7
          go_wp2_with fail
          go_roundw
          case rel => exact ⟨k + 1, g8, cap8, _, by omega, by go_num, HA9.out⟩
          case measure => simp [intOf]; omega
        | some ay =>
          obtain ⟨iZ, hiZ, iZ0, iZ1, iZ2⟩ := info_parts infoZ
          obtain ⟨V3, hV3⟩ : ∃ V3, V2.setCell ⟨wr.heap.size, 1, none⟩ (.slice (some ⟨g1, 0, none⟩) ol cp1) = V3 := ⟨_, rfl⟩
          have hsV3 : V3.heap.size = V2.heap.size := by rw [← hV3]; simp
          rw [hV3] at hJs hA3 hO3 m0 m1 m2 m3 mf3
          obtain ⟨V4, hV4⟩ : ∃ V4, V3.alloc (.cells #[] 3) = V4 := ⟨_, rfl⟩
          have hbV4 : Below V3.heap.size V3 V4 := by rw [← hV4]; exact below_new _ _
          have hA4 := hA3.below hbV4
          have hY4 := HY0.out.below hA4.bel
          have hJ4 := hJs.1.below hbV4
          have hO4 := hO3.below hbV4
          have hZ4 := ownZ_made V3 V2.heap.size (by omega)
          rw [hsV3, hV4] at hZ4
          have hsV4 : V4.heap.size = V2.heap.size + 1 := by rw [← hV4]; simp; omega
          have hyl := hY4.1
          have hym : yl ≤ 1099511627776 := hyl8
          have hcellZ : Hid (∀ j u, (intVals yes)[j]? = some u → V4.cell? (ay.add j) = some u) := by
            intro j u hj
            have hjl9 : j < yes.length := by rw [← intVals_length]; exact (List.getElem?_eq_some_iff.1 hj).1
            obtain ⟨b, off, ha, hcz⟩ := hY4.2.2 (by omega)
            cases ha
            rw [Addr.add_lit, hcz j hjl9]
            have : (intVals yes)[j]? = some (.int .i64 yes[j]) := by simp [intVals, hjl9]
            rw [this] at hj
            exact hj
          have hlz : (intVals yes).length = yl * 1 := by rw [intVals_length]; omega
          have hcz3 : 0 + yl ≤ maxLen := by unfold maxLen; omega
          have hcz4 : (0 + yl) * 8 ≤ 140737488355328 := by omega
          have hbz4 : V2.heap.size ≤ V4.heap.size := by omega
          obtain ⟨i0, i1, i2, i3⟩ := hJ4.cells
          go_wp2_with (at_builtin; refine wpList_append_own _ rfl (.tmp 30) (.tmp 32) 34 rfl V2.heap.size 3 iZ (.int .i64 0) 1 8 Try.underlying34 hiZ iZ0 iZ1 iZ2 rfl (by decide) _ _ _ rfl hZ4.2 ay yl yc (intVals yes) rfl hlz hcellZ.out (intVals_oneCell _) hcz3 hcz4 hbz4 ?_)
          intro vy w6 hownY hgrowY hnnY
          have hnnY' : ¬ vy = .slice none 0 0 := by simpa using hnnY
          have hownY' : w6.ownsRow V2.heap.size 3 1 vy yl (intVals yes) := by have h9 := hownY; simpa [intVals] using h9
          obtain ⟨gy, cy, ey, hgy⟩ := own_row_at hownY' hnnY'
          subst ey
          have hgrY : V4.grownBy w6 (some V2.heap.size) := hgrowY
          have hq2 := hnq V2.heap.size (by omega)
          have hA5 := hA4.other hgrY (by omega) hq2.1 hq2.2.1 hq2.2.2
          have hJ5 : BoxJ wr.heap.size tx st (.slice (some ⟨g1, 0, none⟩) ol cp1) (.slice (some ay) yl yc) w6 := (hgrY.block _ hJ4.lt (by simp; omega)).trans hJ4
          have hO5 := hO4.grown hgrY (by simp; omega)
          have hZ5 : OwnZ w6 V2.heap.size gy yl cy yes := ⟨hyl, hownY'⟩
          have hJt := boxJ_set3 hJ5 (.slice (some ⟨gy, 0, none⟩) yl cy)
          obtain ⟨V6, hV6⟩ : ∃ V6, w6.setCell ⟨wr.heap.size, 3, none⟩ (.slice (some ⟨gy, 0, none⟩) yl cy) = V6 := ⟨_, rfl⟩
          have hs6 : V6.heap.size = w6.heap.size := by rw [← hV6]; simp
          rw [hV6] at hJt
          have hA6 := hA5.other hJt.2 hwr (hnq _ (Nat.le_refl _)).1 (hnq _ (Nat.le_refl _)).2.1 (hnq _ (Nat.le_refl _)).2.2
          have hJ6 := hJt.1
          have hO6 := hO5.grown hJt.2 (by simp; omega)
          have hZ6 : OwnZ V6 0 gy yl cy yes := (hZ5.grown hJt.2 (by simp; omega)).mono (Nat.zero_le _)
          have hszz := hgrY.size
          obtain ⟨V7, hV7⟩ : ∃ V7, V6.alloc (.cells #[.int .i64 tx, .slice (some ⟨g1, 0, none⟩) ol cp1, .int .i64 st, .slice (some ⟨gy, 0, none⟩) yl cy] 65) = V7 := ⟨_, rfl⟩
          have HV7 := Hid.mk' hV7
          obtain ⟨t0, t1, t2, t3⟩ := hJ5.cells
          have tf3 := BoxJ.fz hJ5 3
          clear i0 i1 i2 i3 m0 m1 m2 m3 mf3 hownY hgrowY hnnY hnnY' hcellZ hZ4 hA4 hA5 hJ4 hO4 hO5 hZ5 hV4 hV3
          obtain ⟨u0, u1, u2, u3, u4, u5⟩ := hA6.o.cells
          obtain ⟨v0, v1, v2, v3⟩ := hJ6.cells
          have hb7 : Below V6.heap.size V6 V7 := by rw [← hV7]; exact below_new _ _
          have hA7 := hA6.below hb7
          have hN7 : BoxJ V6.heap.size tx st (.slice (some ⟨g1, 0, none⟩) ol cp1) (.slice (some ⟨gy, 0, none⟩) yl cy) V7 := by rw [← hV7]; exact heap_alloc_new V6 _
          rw [hs6] at hN7
          have hs7 : V7.heap.size = V6.heap.size + 1 := by rw [← hV7]; simp
          have htl : (jobs.take k).length = k := by simp; omega
          have hrow7 : V7.ownsRow 0 65 4 (.slice (some ⟨gj, 0, none⟩) k jcap) k (cellsOf q) := by have := hA7.jobs.row; rw [htl] at this; exact this
          have HNW : Hid (∀ j u, ([.int .i64 tx, .slice (some ⟨g1, 0, none⟩) ol cp1, .int .i64 st, .slice (some ⟨gy, 0, none⟩) yl cy] : List Value)[j]? = some u → V7.cell? ((⟨w6.heap.size, 0, none⟩ : Addr).add j) = some u) := by
            intro j u hj
            obtain ⟨n0, n1, n2, n3⟩ := hN7.cells
            rw [Addr.add_lit, Nat.zero_add]
            match j, hj with
            | 0, hj => cases hj; exact n0
            | 1, hj => cases hj; exact n1
            | 2, hj => cases hj; exact n2
            | 3, hj => cases hj; exact n3
          have HON : Hid (∀ u ∈ ([.int .i64 tx, .slice (some ⟨g1, 0, none⟩) ol cp1, .int .i64 st, .slice (some ⟨gy, 0, none⟩) yl cy] : List Value), u.oneCell' = true) := by
            intro u hu
            simp only [List.mem_cons, List.not_mem_nil, or_false] at hu
            rcases hu with rfl | rfl | rfl | rfl <;> rfl
          have hc7 : k + 1 ≤ maxLen := by unfold maxLen; omega
          have hc8 : (k + 1) * 64 ≤ 140737488355328 := by omega
          have HA7 := Hid.mk' hA7
          have HO7 := Hid.mk' (ownV_of ((hO6.below hb7).mono (base' := 0) (Nat.zero_le _)))
          have HZ7 : Hid (OwnZV V7 (.slice (some ⟨gy, 0, none⟩) yl cy) yes) := ⟨HJW.out.2.2.2, by have h9 := (hZ6.below hb7).2; have h8 := (hZ6.below hb7).1; first | (rw [h8]; exact h9) | (rw [← h8] at h9; simpa using h9)⟩
          clear hA7 hA6 hN7 hb7 hO6 hZ6 hJ6 hV7
          go_wp2_with (at_builtin; rw [HV7.out]; refine wpList_append_lies _ rfl (.tmp 36) (.tmp 38) 24 rfl 0 65 iJ (.agg #[.int .i64 0, .slice none 0 0, .int .i64 0, .slice none 0 0]) 4 64 Try.underlying24 hiJ iJ0 iJ1 iJ2 rfl (by decide) _ _ _ rfl hrow7 ⟨w6.heap.size, 0, none⟩ 1 1 [.int .i64 tx, .slice (some ⟨g1, 0, none⟩) ol cp1, .int .i64 st, .slice (some ⟨gy, 0, none⟩) yl cy] ?e1 rfl HNW.out HON.out (by decide) hc7 hc8 (Nat.zero_le _) _ rfl ?_)
          case e1 => simp [Act.eval]
          intro g8 cap8 w8 hown8 hgrow8 hat8 hlt8
          have hgr8 : V7.grownBy w8 (some gj) := hgrow8
          have hnd : ([g1] ++ [gy] : List Nat).Nodup := by simp; omega
          have hx : jobR.own V7 [.int .i64 tx, .slice (some ⟨g1, 0, none⟩) ol cp1, .int .i64 st, .slice (some ⟨gy, 0, none⟩) yl cy] (tx, ops, st, yes) ([g1] ++ [gy]) := job_own.2 ⟨_, _, rfl, HJW.out.1, HJW.out.2.1, HO7.out, HZ7.out, rfl, hnd⟩
          have hbig : ∀ b ∈ ([g1] ++ [gy] : List Nat), wr.heap.size ≤ b := fun b hb => by simp at hb; rcases hb with rfl | rfl <;> omega
          have hd : ∀ b ∈ ([g1] ++ [gy] : List Nat), b ∉ (Value.slice (some ⟨gj, 0, none⟩) k jcap).ownBlock.toList ++ blocksOf q := fun b hb hc => by
            have h1 := hbig b hb
            have h2 := hA0l b (List.mem_cons_of_mem _ (by simpa [Value.ownBlock] using hc))
            omega
          have hsn := OwnG.snoc HA7.out.jobs hx hd (by rw [htl]; exact hown8) hgrow8 hat8 (by omega)
          rw [htl, ← HTK.out] at hsn
          have hnw7 := HA7.out.new
          have hgj3 : w.heap.size + 3 ≤ gj := hnw7 gj (by simp)
          have hgl3 : w.heap.size + 3 ≤ gl := hnw7 gl (by simp)
          have hne7 := HA7.out.ne
          have ho8 := HA7.out.o.grown hgr8 (by simp; omega)
          have s9 := boxC_set3 ho8 (some ⟨g8, 0, none⟩) (k + 1) cap8
          have hg83 : w.heap.size + 3 ≤ g8 := by
            rcases hat8 with e | e
            · have : gj = g8 := by simpa [Value.ownBlock] using e
              omega
            · omega
          have hB8 := HA7.out.bel.grown hgr8 HA7.out.bel.size (fun b e => by cases e; omega)
          have hL8 := HA7.out.log.keep fun b hk => hgr8.block b (HA7.out.log.at_ b hk) (by
            rw [hqb] at hk
            simp [Value.ownBlock] at hk
            subst hk
            simp
            intro e
            exact hne7 (by simp [e]))
          have HA9 : Hid (CopyAt w (w8.setCell ⟨w.heap.size + 1 + 1, 3, none⟩ (.slice (some ⟨g8, 0, none⟩) (k + 1) cap8)) n life next sure (some ⟨jb, joff, none⟩) jn jc none 0 lc (k + 1) g8 cap8 gl lcap (jobs.take (k + 1)) log (q ++ [([.int .i64 tx, .slice (some ⟨g1, 0, none⟩) ol cp1, .int .i64 st, .slice (some ⟨gy, 0, none⟩) yl cy], [g1] ++ [gy])]) ql) := by
            refine ⟨hB8.grown s9.2 hB8.size (fun b e => by cases e; omega), (HA7.out.p.grown hgr8 (by simp; omega)).grown s9.2 (by simp <;> omega), (HA7.out.r.grown hgr8 (by simp; omega)).grown s9.2 (by simp <;> omega), s9.1, ?_, ?_, ?_, ?_⟩
            · refine hsn.keep fun b hk => s9.2.block b (hsn.at_ b hk) ?_
              rw [blocksOf_append] at hk
              have : w.heap.size + 3 ≤ b := by
                rcases List.mem_append.1 hk with h1 | h1
                · simp [Value.ownBlock] at h1; omega
                · rcases List.mem_append.1 h1 with h2 | h2
                  · exact hnw7 b (by simp [h2])
                  · have := hbig b (by simpa [blocksOf] using h2); omega
              simp; omega
            · refine hL8.keep fun b hk => s9.2.block b (hL8.at_ b hk) ?_
              rw [hqb] at hk
              simp [Value.ownBlock] at hk
              simp; omega
            · intro b hb
              rw [blocksOf_append] at hb
              rcases List.mem_cons.1 hb with h1 | h1
              · omega
              · rcases List.mem_cons.1 h1 with h2 | h2
                · omega
                · rcases List.mem_append.1 h2 with h3 | h3
                  · exact hnw7 b (by simp [h3])
                  · have := hbig b (by simpa [blocksOf] using h3); omega
            · intro hb
              rw [blocksOf_append] at hb
              have hlw := hA0l gl (by simp)
              rcases List.mem_cons.1 hb with h1 | h1
              · rcases hat8 with e | e
                · have : gj = g8 := by simpa [Value.ownBlock] using e
                  exact hne7 (by simp [h1, this])
                · omega
              · rcases List.mem_append.1 h1 with h3 | h3
                · exact hne7 (by simp [h3])
                · have := hbig gl (by simpa [blocksOf] using h3); omega
          obtain ⟨y0, y1, y2, y3, y4, y5⟩ := ho8.cells
          have yf := ho8.fz 3
          clear hsn hx hd hown8 hgrow8 hgr8 hL8 hB8 s9 ho8 HA7 HO7 HZ7
          go_wp2_with fail
          go_roundw
          case rel => exact ⟨k + 1, g8, cap8, _, by omega, by go_num, HA9.out⟩
          case measure => simp [intOf]; omega
      · have hnk : ¬ (k : Int) < (jn : Int) := by omega
        have hkj : k = jn := by omega
        subst hkj
        obtain ⟨o0, o1, o2, o3, o4, o5⟩ := hA.o.cells
        obtain ⟨r0, r1, r2, r3, r4, r5⟩ := hA.r.cells
        have f0 := hA.r.fz 0
        have f1 := hA.r.fz 1
        have f2 := hA.r.fz 2
        have f3 := hA.r.fz 3
        have f4 := hA.r.fz 4
        have f5 := hA.r.fz 5
        have hz := boxC_set6 hA.r n life next sure (some ⟨gj, 0, none⟩) k jcap (some ⟨gl, 0, none⟩) 0 lcap
        have hzc := hz.1.cells
        have HZC := Hid.mk' hzc
        have htl : jobs.take k = jobs := List.take_of_length_le (by omega)
        have hnew := hA.new
        have HJO := Hid.mk' (show OwnG 65 jobR _ (.slice (some ⟨gj, 0, none⟩) k jcap) jobs q from by
          have h1 := hA.jobs
          rw [htl] at h1
          exact h1.keep fun b hk => hz.2.block b (h1.at_ b hk) (by
            have := hnew b (List.mem_cons_of_mem _ (by simpa [Value.ownBlock] using hk))
            simp; omega))
        have HLO := Hid.mk' (hA.log.keep fun b hk => hz.2.block b (hA.log.at_ b hk) (by
          rw [hqb] at hk
          simp [Value.ownBlock] at hk
          have := hnew gl (by simp)
          simp; omega))
        have HBZ := Hid.mk' (hA.bel.grown hz.2 hA.bel.size (fun b e => by cases e; omega))
        have HNW : Hid (∀ b ∈ gl :: gj :: blocksOf q, w.heap.size ≤ b) := fun b hb => by have := hnew b hb; omega
        have HNE := Hid.mk' hA.ne
        clear hz hzc hA hnew
        go_wp2_with fail
        have hzc := HZC.out
        refine bodyPost_ret (v := .agg #[.int .i64 n, .int .i64 life, .int .i64 next, .slice (some ⟨gj, 0, none⟩) k jcap, .slice (some ⟨gl, 0, none⟩) 0 lcap, .int .i64 sure]) ?_ rfl (show CopyPost w k 0 (n, life, next, jobs, log, sure) _ _ from ⟨gj, jcap, gl, lcap, q, ql, rfl, HJO.out, HLO.out, HNW.out, HNE.out, HBZ.out⟩)
        simp [results, Try.results33, go_sem, hzc.1, hzc.2.1, hzc.2.2.1, hzc.2.2.2.1, hzc.2.2.2.2.1, hzc.2.2.2.2.2]
  | some ad =>
    obtain ⟨W3, hW3⟩ : ∃ W3, ((w.alloc (coO n life next sure ja jn jc (some ad) ln lc)).alloc (coO 0 0 0 0 none 0 0 none 0 0)).alloc (coO n life next sure ja jn jc (some ad) ln lc) = W3 := ⟨_, rfl⟩
    have hB3 : Below w.heap.size w W3 := by rw [← hW3]; exact (((Below.refl _ _).alloc (Nat.le_refl _) _).alloc (by simp) _).alloc (by simp; omega) _
    have hs3 : W3.heap.size = w.heap.size + 1 + 1 + 1 := by rw [← hW3]; simp
    have hp3 : BoxC w.heap.size n life next sure ja jn jc (some ad) ln lc W3 := by rw [← hW3]; exact ((boxC_new w _ _ _ _ _ _ _ _ _ _).below (below_new _ _)).below (below_new _ _)
    have hr3 : BoxC (w.heap.size + 1) 0 0 0 0 none 0 0 none 0 0 W3 := by
      rw [← hW3]
      have := boxC_new (w.alloc (coO n life next sure ja jn jc (some ad) ln lc)) 0 0 0 0 none 0 0 none 0 0
      have e : (w.alloc (coO n life next sure ja jn jc (some ad) ln lc)).heap.size = w.heap.size + 1 := by simp
      rw [e] at this
      exact this.below (below_new _ _)
    have ho3 : BoxC (w.heap.size + 1 + 1) n life next sure ja jn jc (some ad) ln lc W3 := by
      rw [← hW3]
      have := boxC_new ((w.alloc (coO n life next sure ja jn jc (some ad) ln lc)).alloc (coO 0 0 0 0 none 0 0 none 0 0)) n life next sure ja jn jc (some ad) ln lc
      have e : ((w.alloc (coO n life next sure ja jn jc (some ad) ln lc)).alloc (coO 0 0 0 0 none 0 0 none 0 0)).heap.size = w.heap.size + 1 + 1 := by simp
      rw [e] at this
      exact this
    have hb4 := below_new W3 (.cells #[] 42)
    have hB4 := hB3.trans (hb4.mono hB3.size)
    have hrow : (W3.alloc (.cells #[] 42)).ownsRow (w.heap.size + 1 + 1 + 1) 42 2 (.slice (some ⟨w.heap.size + 1 + 1 + 1, 0, none⟩) 0 0) 0 [] := by
      have := World.ownsRow_made (base := w.heap.size + 1 + 1 + 1) (e := 42) (size := 2) W3 #[] 0 (by omega) (Nat.zero_le _) (by simp)
      rw [hs3] at this
      exact this
    have hcell : Hid (∀ j u, (chVals log)[j]? = some u → (W3.alloc (.cells #[] 42)).cell? (ad.add j) = some u) := by
      rcases Nat.eq_zero_or_pos ln with e | e
      · intro j u hj
        have e1 : log = [] := List.eq_nil_of_length_eq_zero (by omega)
        rw [e1] at hj; simp [chVals] at hj
      · obtain ⟨b, off, ha, _⟩ := hlog.2.2.2 e
        cases ha
        exact cells_ch (hlog.below hB4)
    have hl2 : (chVals log).length = ln * 2 := by rw [chVals_length]; omega
    have hc3 : 0 + ln ≤ maxLen := by unfold maxLen; omega
    have hc4 : (0 + ln) * 16 ≤ 140737488355328 := by omega
    have HW3 := Hid.mk' hW3
    have hbase : w.heap.size + 1 + 1 + 1 ≤ (W3.alloc (.cells #[] 42)).heap.size := by simp; omega
    clear hW3 hlog h
    go_enter Try.func33, Try.ntmps33
    go_wp2_with (at_builtin; rw [HW3.out]; refine wpList_append_own _ rfl (.tmp 7) (.tmp 9) 25 rfl (w.heap.size + 1 + 1 + 1) 42 iC (.agg #[.int .i64 0, .bool false]) 2 16 Try.underlying25 hiC hC0 hC1 hC2 rfl (by decide) _ _ _ rfl hrow ad ln lc (chVals log) rfl hl2 hcell.out (chVals_one _) hc3 hc4 hbase ?_)
    intro v5 w5 hown5 hgrow5 hnn5
    obtain ⟨gl, lcap, e5, hgl⟩ := own_row_at hown5 hnn5
    subst e5
    have hgr5 : (W3.alloc (.cells #[] 42)).grownBy w5 (some (w.heap.size + 1 + 1 + 1)) := hgrow5
    have hp5 := (hp3.below hb4).grown hgr5 (by simp <;> omega)
    have hr5 := (hr3.below hb4).grown hgr5 (by simp <;> omega)
    have ho5 := (ho3.below hb4).grown hgr5 (by simp <;> omega)
    have hB5 := hB4.grown hgr5 hB4.size (fun k e => by cases e; omega)
    have hglt := hown5.lt gl rfl
    obtain ⟨o0, o1, o2, o3, o4, o5⟩ := ho5.cells
    have f3 := ho5.fz 3
    have f4 := ho5.fz 4
    have s4 := boxC_set4 ho5 (some ⟨gl, 0, none⟩) ln lcap
    have s3 := boxC_set3 s4.1 (some ⟨w5.heap.size, 0, none⟩) 0 0
    obtain ⟨t0, t1, t2, t3, t4, t5⟩ := s4.1.cells
    have tf := s4.1.fz 3
    have hol5 := ho5.lt
    have hne1 : ¬ w.heap.size + 1 + 1 = w5.heap.size := by omega
    have hne2 : ¬ w5.heap.size = w.heap.size + 1 + 1 := by omega
    have hz5 : (w5.setCell ⟨w.heap.size + 1 + 1, 4, none⟩ (.slice (some ⟨gl, 0, none⟩) ln lcap)).heap.size = w5.heap.size := by simp
    have hg := grownBy_trans s4.2 s3.2
    obtain ⟨V0, hV0⟩ : ∃ V0, ((w5.setCell ⟨w.heap.size + 1 + 1, 4, none⟩ (.slice (some ⟨gl, 0, none⟩) ln lcap)).setCell ⟨w.heap.size + 1 + 1, 3, none⟩ (.slice (some ⟨w5.heap.size, 0, none⟩) 0 0)).alloc (.cells #[] 65) = V0 := ⟨_, rfl⟩
    have hz : ((w5.setCell ⟨w.heap.size + 1 + 1, 4, none⟩ (.slice (some ⟨gl, 0, none⟩) ln lcap)).setCell ⟨w.heap.size + 1 + 1, 3, none⟩ (.slice (some ⟨w5.heap.size, 0, none⟩) 0 0)).heap.size = w5.heap.size := by simp
    have hbz := below_new ((w5.setCell ⟨w.heap.size + 1 + 1, 4, none⟩ (.slice (some ⟨gl, 0, none⟩) ln lcap)).setCell ⟨w.heap.size + 1 + 1, 3, none⟩ (.slice (some ⟨w5.heap.size, 0, none⟩) 0 0)) (.cells #[] 65)
    have hq0 := ownG_made 65 jobR ((w5.setCell ⟨w.heap.size + 1 + 1, 4, none⟩ (.slice (some ⟨gl, 0, none⟩) ln lcap)).setCell ⟨w.heap.size + 1 + 1, 3, none⟩ (.slice (some ⟨w5.heap.size, 0, none⟩) 0 0))
    rw [hz] at hq0
    have hL5 := log_own hll HWF.out hown5
    have hL6 := hL5.keep fun b hk => hg.block b (hL5.at_ b hk) (by
      rw [log_blocks] at hk
      simp [Value.ownBlock] at hk
      simp; omega)
    have HA : Hid (CopyAt w V0 n life next sure ja jn jc (some ad) ln lc 0 w5.heap.size 0 gl lcap (jobs.take 0) log [] (log.map fun x => ([.int .i64 x.1, .bool x.2], []))) := by
      rw [← hV0]
      have hB6 := hB5.grown hg hB5.size (fun k e => by cases e; omega)
      refine ⟨hB6.trans (hbz.mono hB6.size), (hp5.grown hg (by simp <;> omega)).below hbz, (hr5.grown hg (by simp <;> omega)).below hbz, s3.1.below hbz, hq0, hL6.keep fun b hk => hbz.block b (hL6.at_ b hk), ?_, ?_⟩
      · intro b hb
        simp [blocksOf] at hb
        have := hB5.size
        have := hglt.2
        rcases hb with rfl | rfl <;> omega
      · simp [blocksOf]; have := hglt.2; omega
    have HV0 := Hid.mk' hV0
    have hqb := log_blocks log
    generalize hql : (log.map fun x => ([Value.int .i64 x.1, .bool x.2], ([] : List Nat))) = ql at *
    clear hV0 hL5 hL6 hq0 hbz hz hg hz5 s3 s4 hp5 hr5 ho5 hB5 hown5 hgrow5 hgr5 hnn5 hp3 hr3 ho3 hB3 hB4 hb4 hrow hcell HW3
    go_wp2_with fail
    rw [HV0.out]
    go_loopw [4] (fun i wr => ∃ (k gj jcap : Nat) (q : Parts), k ≤ jn ∧ i = .int .i64 (k : Int) ∧ CopyAt w wr n life next sure ja jn jc (some ad) ln lc k gj jcap gl lcap (jobs.take k) log q ql) (fun i _ => jn - (intOf i).toNat)
    case atStart => exact ⟨0, _, 0, [], Nat.zero_le _, rfl, HA.out⟩
    case round =>
      clear HA HV0
      obtain ⟨k, gj, jcap, q, hk, rfl, hA⟩ := hrel
      obtain ⟨x0, x1, x2, x3, x4, x5⟩ := hA.p.cells
      by_cases hlt : k < jn
      · have hltl : k < jobs.length := by omega
        have hki : (k : Int) < (jn : Int) := by omega
        have hjs : SlG jobR w ja jn jobs := HSE.out w (Below.refl _ _)
        obtain ⟨jb, joff, e⟩ := slg_some hjs (by omega)
        subst e
        obtain ⟨c0, c2, ⟨oa, ol, oc, c1, hOo, hoc⟩, ya, yl, yc, c3, hYy, hyc⟩ := job_at hjs k hltl
        replace c0 := (hA.bel.cell (World.block_lt_of_cell? w _ c0)).trans c0
        replace c1 := (hA.bel.cell (World.block_lt_of_cell? w _ c1)).trans c1
        replace c2 := (hA.bel.cell (World.block_lt_of_cell? w _ c2)).trans c2
        replace c3 := (hA.bel.cell (World.block_lt_of_cell? w _ c3)).trans c3
        have HJW := Hid.mk' (job_wf hjs k hltl)
        have hfk := HFJ.out _ (List.getElem_mem hltl)
        have hyl8 : yl ≤ 1099511627776 := by have h1 := hYy.1; have h2 := HYF.out _ (List.getElem_mem hltl); omega
        have hol : ol ≤ 1099511627776 := by have h1 := hOo.1; have h2 := hfk.1; omega
        have HTK : Hid (jobs.take (k + 1) = jobs.take k ++ [jobs[k]]) := List.take_succ_eq_append_getElem hltl
        generalize jobs[k] = jk at *
        obtain ⟨tx, ops, st, yes⟩ := jk
        simp only [] at c0 c1 c2 c3 hOo hYy HJW
        obtain ⟨V1, hV1⟩ : ∃ V1, wr.alloc (.cells #[.int .i64 tx, .slice oa ol oc, .int .i64 st, .slice ya yl yc] 65) = V1 := ⟨_, rfl⟩
        have hb1 : Below wr.heap.size wr V1 := by rw [← hV1]; exact below_new _ _
        have hJ1 : BoxJ wr.heap.size tx st (.slice oa ol oc) (.slice ya yl yc) V1 := by rw [← hV1]; exact heap_alloc_new wr _
        have HCO := Hid.mk' (spec_copyOps oa ol oc ops V1 (hOo.below (hA.bel.trans (hb1.mono hA.bel.size))) hol)
        have HV1 := Hid.mk' hV1
        have HA1 := Hid.mk' (hA.below hb1)
        have HA0 := Hid.mk' hA
        have HY0 := Hid.mk' hYy
        clear hV1 hjs hOo hYy hfk hA
        go_wp2_with fail
        rw [HV1.out]
        refine HCO.out.mono ?_
        rintro e V2 ⟨g1, cp1, rfl, hO1, hb2⟩
        have hA2 := HA1.out.below hb2
        have hJ2 := hJ1.below hb2
        have hY2 := HY0.out.below hA2.bel
        have hs1 : V1.heap.size = wr.heap.size + 1 := by rw [← HV1.out]; simp
        have hg1 := hO1.lt
        have hbr1 := hb2.size
        have hJs := boxJ_set1 hJ2 (.slice (some ⟨g1, 0, none⟩) ol cp1)
        obtain ⟨j0, j1, j2, j3⟩ := hJ2.cells
        have jf1 := hJ2.fz 1
        obtain ⟨m0, m1, m2, m3⟩ := hJs.1.cells
        have mf3 := hJs.1.fz 3
        have hjl2 := hJ2.lt
        have hA0l : ∀ b ∈ gl :: gj :: blocksOf q, b < wr.heap.size := fun b hb => by
          rcases List.mem_cons.1 hb with e | e
          · subst e; exact HA0.out.log.at_ _ (List.mem_append.2 (.inl (by simp [Value.ownBlock])))
          · rcases List.mem_cons.1 e with e | e
            · subst e; exact HA0.out.jobs.at_ _ (List.mem_append.2 (.inl (by simp [Value.ownBlock])))
            · exact HA0.out.jobs.at_ _ (List.mem_append.2 (.inr e))
        have hwr : w.heap.size + 3 ≤ wr.heap.size := by have := HA0.out.o.lt; omega
        have hnq : ∀ g, wr.heap.size ≤ g → g ≠ gl ∧ g ∉ gj :: blocksOf q ∧ g ∉ blocksOf ql := fun g hg => ⟨fun e => by have := hA0l gl (by simp); omega, fun e => by have := hA0l g (List.mem_cons_of_mem _ e); omega, by rw [hqb]; simp⟩
        have hA3 := hA2.other hJs.2 hwr (hnq _ (Nat.le_refl _)).1 (hnq _ (Nat.le_refl _)).2.1 (hnq _ (Nat.le_refl _)).2.2
        have hO3 := hO1.grown hJs.2 (by simp; omega)
        have hnw : ¬ wr.heap.size = V2.heap.size := by omega
        have hnw2 : ¬ V2.heap.size = wr.heap.size := by omega
        cases ya with
        | none =>
          have h0 : yl = 0 := by
            rcases Nat.eq_zero_or_pos yl with e | e
            · exact e
            · obtain ⟨b, off, ha, _⟩ := hY2.2.2 e; cases ha
          subst h0
          have hy0 : yes = [] := List.eq_nil_of_length_eq_zero hY2.1
          subst hy0
          have hanz := append_nothingZ
          have hJt := boxJ_set3 hJs.1 (.slice (some ⟨V2.heap.size, 0, none⟩) 0 0)
          obtain ⟨V5, hV5⟩ : ∃ V5, (V2.setCell ⟨wr.heap.size, 1, none⟩ (.slice (some ⟨g1, 0, none⟩) ol cp1)).setCell ⟨wr.heap.size, 3, none⟩ (.slice (some ⟨V2.heap.size, 0, none⟩) 0 0) = V5 := ⟨_, rfl⟩
          have hs5 : V5.heap.size = V2.heap.size := by rw [← hV5]; simp
          rw [hV5] at hJt
          obtain ⟨V6, hV6⟩ : ∃ V6, V5.alloc (.cells #[] 3) = V6 := ⟨_, rfl⟩
          have hb6 : Below V5.heap.size V5 V6 := by rw [← hV6]; exact below_new _ _
          have hA6 := (hA3.other hJt.2 hwr (hnq _ (Nat.le_refl _)).1 (hnq _ (Nat.le_refl _)).2.1 (hnq _ (Nat.le_refl _)).2.2).below hb6
          have hJ6 := hJt.1.below hb6
          have hO6 := (hO3.grown hJt.2 (by simp; omega)).below hb6
          have hZ6 : OwnZ V6 0 V2.heap.size 0 0 [] := by rw [← hV6, ← hs5]; exact (ownZ_made V5 0 (Nat.zero_le _))
          obtain ⟨V7, hV7⟩ : ∃ V7, V6.alloc (.cells #[.int .i64 tx, .slice (some ⟨g1, 0, none⟩) ol cp1, .int .i64 st, .slice (some ⟨V2.heap.size, 0, none⟩) 0 0] 65) = V7 := ⟨_, rfl⟩
          have HV7 := Hid.mk' hV7
          have hs6 : V6.heap.size = V2.heap.size + 1 := by rw [← hV6]; simp; omega
          obtain ⟨u0, u1, u2, u3, u4, u5⟩ := hA6.o.cells
          obtain ⟨i0, i1, i2, i3⟩ := hJ6.cells
          have hb7 : Below V6.heap.size V6 V7 := by rw [← hV7]; exact below_new _ _
          have hA7 := hA6.below hb7
          have hN7 : BoxJ V6.heap.size tx st (.slice (some ⟨g1, 0, none⟩) ol cp1) (.slice (some ⟨V2.heap.size, 0, none⟩) 0 0) V7 := by rw [← hV7]; exact heap_alloc_new V6 _
          rw [hs6] at hN7
          have hs7 : V7.heap.size = V6.heap.size + 1 := by rw [← hV7]; simp
          have htl : (jobs.take k).length = k := by simp; omega
          have hrow7 : V7.ownsRow 0 65 4 (.slice (some ⟨gj, 0, none⟩) k jcap) k (cellsOf q) := by have := hA7.jobs.row; rw [htl] at this; exact this
          have HNW : Hid (∀ j u, ([.int .i64 tx, .slice (some ⟨g1, 0, none⟩) ol cp1, .int .i64 st, .slice (some ⟨V2.heap.size, 0, none⟩) 0 0] : List Value)[j]? = some u → V7.cell? ((⟨V2.heap.size + 1, 0, none⟩ : Addr).add j) = some u) := by
            intro j u hj
            obtain ⟨n0, n1, n2, n3⟩ := hN7.cells
            rw [Addr.add_lit, Nat.zero_add]
            match j, hj with
            | 0, hj => cases hj; exact n0
            | 1, hj => cases hj; exact n1
            | 2, hj => cases hj; exact n2
            | 3, hj => cases hj; exact n3
          have HON : Hid (∀ u ∈ ([.int .i64 tx, .slice (some ⟨g1, 0, none⟩) ol cp1, .int .i64 st, .slice (some ⟨V2.heap.size, 0, none⟩) 0 0] : List Value), u.oneCell' = true) := by
            intro u hu
            simp only [List.mem_cons, List.not_mem_nil, or_false] at hu
            rcases hu with rfl | rfl | rfl | rfl <;> rfl
          have hc7 : k + 1 ≤ maxLen := by unfold maxLen; omega
          have hc8 : (k + 1) * 64 ≤ 140737488355328 := by omega
          have HA7 := Hid.mk' hA7
          have HO7 := Hid.mk' (ownV_of ((hO6.below hb7).mono (base' := 0) (Nat.zero_le _)))
          have HZ7 : Hid (OwnZV V7 (.slice (some ⟨V2.heap.size, 0, none⟩) 0 0) []) := ⟨HJW.out.2.2.2, by have h9 := (hZ6.below hb7).2; have h8 := (hZ6.below hb7).1; first | (rw [h8]; exact h9) | (rw [← h8] at h9; simpa using h9)⟩
          clear hA7 hA6 hN7 hb7 hO6 hZ6 hJ6 hV7
          go_wp2_with (at_builtin; rw [HV7.out]; refine wpList_append_lies _ rfl (.tmp 36) (.tmp 38) 24 rfl 0 65 iJ (.agg #[.int .i64 0, .slice none 0 0, .int .i64 0, .slice none 0 0]) 4 64 Try.underlying24 hiJ iJ0 iJ1 iJ2 rfl (by decide) _ _ _ rfl hrow7 ⟨V2.heap.size + 1, 0, none⟩ 1 1 [.int .i64 tx, .slice (some ⟨g1, 0, none⟩) ol cp1, .int .i64 st, .slice (some ⟨V2.heap.size, 0, none⟩) 0 0] ?e1 rfl HNW.out HON.out (by decide) hc7 hc8 (Nat.zero_le _) _ rfl ?_)
          case e1 => simp [Act.eval]
          intro g8 cap8 w8 hown8 hgrow8 hat8 hlt8
          have hgr8 : V7.grownBy w8 (some gj) := hgrow8
          have hnd : ([g1] ++ [V2.heap.size] : List Nat).Nodup := by simp; omega
          have hx : jobR.own V7 [.int .i64 tx, .slice (some ⟨g1, 0, none⟩) ol cp1, .int .i64 st, .slice (some ⟨V2.heap.size, 0, none⟩) 0 0] (tx, ops, st, []) ([g1] ++ [V2.heap.size]) := job_own.2 ⟨_, _, rfl, HJW.out.1, HJW.out.2.1, HO7.out, HZ7.out, rfl, hnd⟩
          have hbig : ∀ b ∈ ([g1] ++ [V2.heap.size] : List Nat), wr.heap.size ≤ b := fun b hb => by simp at hb; rcases hb with rfl | rfl <;> omega
          have hd : ∀ b ∈ ([g1] ++ [V2.heap.size] : List Nat), b ∉ (Value.slice (some ⟨gj, 0, none⟩) k jcap).ownBlock.toList ++ blocksOf q := fun b hb hc => by
            have h1 := hbig b hb
            have h2 := hA0l b (List.mem_cons_of_mem _ (by simpa [Value.ownBlock] using hc))
            omega
          have hsn := OwnG.snoc HA7.out.jobs hx hd (by rw [htl]; exact hown8) hgrow8 hat8 (by omega)
          rw [htl, ← HTK.out] at hsn
          have hnw7 := HA7.out.new
          have hgj3 : w.heap.size + 3 ≤ gj := hnw7 gj (by simp)
          have hgl3 : w.heap.size + 3 ≤ gl := hnw7 gl (by simp)
          have hne7 := HA7.out.ne
          have ho8 := HA7.out.o.grown hgr8 (by simp; omega)
          have s9 := boxC_set3 ho8 (some ⟨g8, 0, none⟩) (k + 1) cap8
          have hg83 : w.heap.size + 3 ≤ g8 := by
            rcases hat8 with e | e
            · have : gj = g8 := by simpa [Value.ownBlock] using e
              omega
            · omega
          have hB8 := HA7.out.bel.grown hgr8 HA7.out.bel.size (fun b e => by cases e; omega)
          have hL8 := HA7.out.log.keep fun b hk => hgr8.block b (HA7.out.log.at_ b hk) (by
            rw [hqb] at hk
            simp [Value.ownBlock] at hk
            subst hk
            simp
            intro e
            exact hne7 (by simp [e]))
          have HA9 : Hid (CopyAt w (w8.setCell ⟨w.heap.size + 1 + 1, 3, none⟩ (.slice (some ⟨g8, 0, none⟩) (k + 1) cap8)) n life next sure (some ⟨jb, joff, none⟩) jn jc (some ad) ln lc (k + 1) g8 cap8 gl lcap (jobs.take (k + 1)) log (q ++ [([.int .i64 tx, .slice (some ⟨g1, 0, none⟩) ol cp1, .int .i64 st, .slice (some ⟨V2.heap.size, 0, none⟩) 0 0], [g1] ++ [V2.heap.size])]) ql) := by
            refine ⟨hB8.grown s9.2 hB8.size (fun b e => by cases e; omega), (HA7.out.p.grown hgr8 (by simp; omega)).grown s9.2 (by simp <;> omega), (HA7.out.r.grown hgr8 (by simp; omega)).grown s9.2 (by simp <;> omega), s9.1, ?_, ?_, ?_, ?_⟩
            · refine hsn.keep fun b hk => s9.2.block b (hsn.at_ b hk) ?_
              rw [blocksOf_append] at hk
              have : w.heap.size + 3 ≤ b := by
                rcases List.mem_append.1 hk with h1 | h1
                · simp [Value.ownBlock] at h1; omega
                · rcases List.mem_append.1 h1 with h2 | h2
                  · exact hnw7 b (by simp [h2])
                  · have := hbig b (by simpa [blocksOf] using h2); omega
              simp; omega
            · refine hL8.keep fun b hk => s9.2.block b (hL8.at_ b hk) ?_
              rw [hqb] at hk
              simp [Value.ownBlock] at hk
              simp; omega
            · intro b hb
              rw [blocksOf_append] at hb
              rcases List.mem_cons.1 hb with h1 | h1
              · omega
              · rcases List.mem_cons.1 h1 with h2 | h2
                · omega
                · rcases List.mem_append.1 h2 with h3 | h3
                  · exact hnw7 b (by simp [h3])
                  · have := hbig b (by simpa [blocksOf] using h3); omega
            · intro hb
              rw [blocksOf_append] at hb
              have hlw := hA0l gl (by simp)
              rcases List.mem_cons.1 hb with h1 | h1
              · rcases hat8 with e | e
                · have : gj = g8 := by simpa [Value.ownBlock] using e
                  exact hne7 (by simp [h1, this])
                · omega
              · rcases List.mem_append.1 h1 with h3 | h3
                · exact hne7 (by simp [h3])
                · have := hbig gl (by simpa [blocksOf] using h3); omega
          obtain ⟨y0, y1, y2, y3, y4, y5⟩ := ho8.cells
          have yf := ho8.fz 3
          clear hsn hx hd hown8 hgrow8 hgr8 hL8 hB8 s9 ho8 HA7 HO7 HZ7
          go_wp2_with fail
          go_roundw
          case rel => exact ⟨k + 1, g8, cap8, _, by omega, by go_num, HA9.out⟩
          case measure => simp [intOf]; omega
        | some ay =>
          obtain ⟨iZ, hiZ, iZ0, iZ1, iZ2⟩ := info_parts infoZ
          obtain ⟨V3, hV3⟩ : ∃ V3, V2.setCell ⟨wr.heap.size, 1, none⟩ (.slice (some ⟨g1, 0, none⟩) ol cp1) = V3 := ⟨_, rfl⟩
          have hsV3 : V3.heap.size = V2.heap.size := by rw [← hV3]; simp
          rw [hV3] at hJs hA3 hO3 m0 m1 m2 m3 mf3
          obtain ⟨V4, hV4⟩ : ∃ V4, V3.alloc (.cells #[] 3) = V4 := ⟨_, rfl⟩
          have hbV4 : Below V3.heap.size V3 V4 := by rw [← hV4]; exact below_new _ _
          have hA4 := hA3.below hbV4
          have hY4 := HY0.out.below hA4.bel
          have hJ4 := hJs.1.below hbV4
          have hO4 := hO3.below hbV4
          have hZ4 := ownZ_made V3 V2.heap.size (by omega)
          rw [hsV3, hV4] at hZ4
          have hsV4 : V4.heap.size = V2.heap.size + 1 := by rw [← hV4]; simp; omega
          have hyl := hY4.1
          have hym : yl ≤ 1099511627776 := hyl8
          have hcellZ : Hid (∀ j u, (intVals yes)[j]? = some u → V4.cell? (ay.add j) = some u) := by
            intro j u hj
            have hjl9 : j < yes.length := by rw [← intVals_length]; exact (List.getElem?_eq_some_iff.1 hj).1
            obtain ⟨b, off, ha, hcz⟩ := hY4.2.2 (by omega)
            cases ha
            rw [Addr.add_lit, hcz j hjl9]
            have : (intVals yes)[j]? = some (.int .i64 yes[j]) := by simp [intVals, hjl9]
            rw [this] at hj
            exact hj
          have hlz : (intVals yes).length = yl * 1 := by rw [intVals_length]; omega
          have hcz3 : 0 + yl ≤ maxLen := by unfold maxLen; omega
          have hcz4 : (0 + yl) * 8 ≤ 140737488355328 := by omega
          have hbz4 : V2.heap.size ≤ V4.heap.size := by omega
          obtain ⟨i0, i1, i2, i3⟩ := hJ4.cells
          go_wp2_with (at_builtin; refine wpList_append_own _ rfl (.tmp 30) (.tmp 32) 34 rfl V2.heap.size 3 iZ (.int .i64 0) 1 8 Try.underlying34 hiZ iZ0 iZ1 iZ2 rfl (by decide) _ _ _ rfl hZ4.2 ay yl yc (intVals yes) rfl hlz hcellZ.out (intVals_oneCell _) hcz3 hcz4 hbz4 ?_)
          intro vy w6 hownY hgrowY hnnY
          have hnnY' : ¬ vy = .slice none 0 0 := by simpa using hnnY
          have hownY' : w6.ownsRow V2.heap.size 3 1 vy yl (intVals yes) := by have h9 := hownY; simpa [intVals] using h9
          obtain ⟨gy, cy, ey, hgy⟩ := own_row_at hownY' hnnY'
          subst ey
          have hgrY : V4.grownBy w6 (some V2.heap.size) := hgrowY
          have hq2 := hnq V2.heap.size (by omega)
          have hA5 := hA4.other hgrY (by omega) hq2.1 hq2.2.1 hq2.2.2
          have hJ5 : BoxJ wr.heap.size tx st (.slice (some ⟨g1, 0, none⟩) ol cp1) (.slice (some ay) yl yc) w6 := (hgrY.block _ hJ4.lt (by simp; omega)).trans hJ4
          have hO5 := hO4.grown hgrY (by simp; omega)
          have hZ5 : OwnZ w6 V2.heap.size gy yl cy yes := ⟨hyl, hownY'⟩
          have hJt := boxJ_set3 hJ5 (.slice (some ⟨gy, 0, none⟩) yl cy)
          obtain ⟨V6, hV6⟩ : ∃ V6, w6.setCell ⟨wr.heap.size, 3, none⟩ (.slice (some ⟨gy, 0, none⟩) yl cy) = V6 := ⟨_, rfl⟩
          have hs6 : V6.heap.size = w6.heap.size := by rw [← hV6]; simp
          rw [hV6] at hJt
          have hA6 := hA5.other hJt.2 hwr (hnq _ (Nat.le_refl _)).1 (hnq _ (Nat.le_refl _)).2.1 (hnq _ (Nat.le_refl _)).2.2
          have hJ6 := hJt.1
          have hO6 := hO5.grown hJt.2 (by simp; omega)
          have hZ6 : OwnZ V6 0 gy yl cy yes := (hZ5.grown hJt.2 (by simp; omega)).mono (Nat.zero_le _)
          have hszz := hgrY.size
          obtain ⟨V7, hV7⟩ : ∃ V7, V6.alloc (.cells #[.int .i64 tx, .slice (some ⟨g1, 0, none⟩) ol cp1, .int .i64 st, .slice (some ⟨gy, 0, none⟩) yl cy] 65) = V7 := ⟨_, rfl⟩
          have HV7 := Hid.mk' hV7
          obtain ⟨t0, t1, t2, t3⟩ := hJ5.cells
          have tf3 := BoxJ.fz hJ5 3
          clear i0 i1 i2 i3 m0 m1 m2 m3 mf3 hownY hgrowY hnnY hnnY' hcellZ hZ4 hA4 hA5 hJ4 hO4 hO5 hZ5 hV4 hV3
          obtain ⟨u0, u1, u2, u3, u4, u5⟩ := hA6.o.cells
          obtain ⟨v0, v1, v2, v3⟩ := hJ6.cells
          have hb7 : Below V6.heap.size V6 V7 := by rw [← hV7]; exact below_new _ _
          have hA7 := hA6.below hb7
          have hN7 : BoxJ V6.heap.size tx st (.slice (some ⟨g1, 0, none⟩) ol cp1) (.slice (some ⟨gy, 0, none⟩) yl cy) V7 := by rw [← hV7]; exact heap_alloc_new V6 _
          rw [hs6] at hN7
          have hs7 : V7.heap.size = V6.heap.size + 1 := by rw [← hV7]; simp
          have htl : (jobs.take k).length = k := by simp; omega
          have hrow7 : V7.ownsRow 0 65 4 (.slice (some ⟨gj, 0, none⟩) k jcap) k (cellsOf q) := by have := hA7.jobs.row; rw [htl] at this; exact this
          have HNW : Hid (∀ j u, ([.int .i64 tx, .slice (some ⟨g1, 0, none⟩) ol cp1, .int .i64 st, .slice (some ⟨gy, 0, none⟩) yl cy] : List Value)[j]? = some u → V7.cell? ((⟨w6.heap.size, 0, none⟩ : Addr).add j) = some u) := by
            intro j u hj
            obtain ⟨n0, n1, n2, n3⟩ := hN7.cells
            rw [Addr.add_lit, Nat.zero_add]
            match j, hj with
            | 0, hj => cases hj; exact n0
            | 1, hj => cases hj; exact n1
            | 2, hj => cases hj; exact n2
            | 3, hj => cases hj; exact n3
          have HON : Hid (∀ u ∈ ([.int .i64 tx, .slice (some ⟨g1, 0, none⟩) ol cp1, .int .i64 st, .slice (some ⟨gy, 0, none⟩) yl cy] : List Value), u.oneCell' = true) := by
            intro u hu
            simp only [List.mem_cons, List.not_mem_nil, or_false] at hu
            rcases hu with rfl | rfl | rfl | rfl <;> rfl
          have hc7 : k + 1 ≤ maxLen := by unfold maxLen; omega
          have hc8 : (k + 1) * 64 ≤ 140737488355328 := by omega
          have HA7 := Hid.mk' hA7
          have HO7 := Hid.mk' (ownV_of ((hO6.below hb7).mono (base' := 0) (Nat.zero_le _)))
          have HZ7 : Hid (OwnZV V7 (.slice (some ⟨gy, 0, none⟩) yl cy) yes) := ⟨HJW.out.2.2.2, by have h9 := (hZ6.below hb7).2; have h8 := (hZ6.below hb7).1; first | (rw [h8]; exact h9) | (rw [← h8] at h9; simpa using h9)⟩
          clear hA7 hA6 hN7 hb7 hO6 hZ6 hJ6 hV7
          go_wp2_with (at_builtin; rw [HV7.out]; refine wpList_append_lies _ rfl (.tmp 36) (.tmp 38) 24 rfl 0 65 iJ (.agg #[.int .i64 0, .slice none 0 0, .int .i64 0, .slice none 0 0]) 4 64 Try.underlying24 hiJ iJ0 iJ1 iJ2 rfl (by decide) _ _ _ rfl hrow7 ⟨w6.heap.size, 0, none⟩ 1 1 [.int .i64 tx, .slice (some ⟨g1, 0, none⟩) ol cp1, .int .i64 st, .slice (some ⟨gy, 0, none⟩) yl cy] ?e1 rfl HNW.out HON.out (by decide) hc7 hc8 (Nat.zero_le _) _ rfl ?_)
          case e1 => simp [Act.eval]
          intro g8 cap8 w8 hown8 hgrow8 hat8 hlt8
          have hgr8 : V7.grownBy w8 (some gj) := hgrow8
          have hnd : ([g1] ++ [gy] : List Nat).Nodup := by simp; omega
          have hx : jobR.own V7 [.int .i64 tx, .slice (some ⟨g1, 0, none⟩) ol cp1, .int .i64 st, .slice (some ⟨gy, 0, none⟩) yl cy] (tx, ops, st, yes) ([g1] ++ [gy]) := job_own.2 ⟨_, _, rfl, HJW.out.1, HJW.out.2.1, HO7.out, HZ7.out, rfl, hnd⟩
          have hbig : ∀ b ∈ ([g1] ++ [gy] : List Nat), wr.heap.size ≤ b := fun b hb => by simp at hb; rcases hb with rfl | rfl <;> omega
          have hd : ∀ b ∈ ([g1] ++ [gy] : List Nat), b ∉ (Value.slice (some ⟨gj, 0, none⟩) k jcap).ownBlock.toList ++ blocksOf q := fun b hb hc => by
            have h1 := hbig b hb
            have h2 := hA0l b (List.mem_cons_of_mem _ (by simpa [Value.ownBlock] using hc))
            omega
          have hsn := OwnG.snoc HA7.out.jobs hx hd (by rw [htl]; exact hown8) hgrow8 hat8 (by omega)
          rw [htl, ← HTK.out] at hsn
          have hnw7 := HA7.out.new
          have hgj3 : w.heap.size + 3 ≤ gj := hnw7 gj (by simp)
          have hgl3 : w.heap.size + 3 ≤ gl := hnw7 gl (by simp)
          have hne7 := HA7.out.ne
          have ho8 := HA7.out.o.grown hgr8 (by simp; omega)
          have s9 := boxC_set3 ho8 (some ⟨g8, 0, none⟩) (k + 1) cap8
          have hg83 : w.heap.size + 3 ≤ g8 := by
            rcases hat8 with e | e
            · have : gj = g8 := by simpa [Value.ownBlock] using e
              omega
            · omega
          have hB8 := HA7.out.bel.grown hgr8 HA7.out.bel.size (fun b e => by cases e; omega)
          have hL8 := HA7.out.log.keep fun b hk => hgr8.block b (HA7.out.log.at_ b hk) (by
            rw [hqb] at hk
            simp [Value.ownBlock] at hk
            subst hk
            simp
            intro e
            exact hne7 (by simp [e]))
          have HA9 : Hid (CopyAt w (w8.setCell ⟨w.heap.size + 1 + 1, 3, none⟩ (.slice (some ⟨g8, 0, none⟩) (k + 1) cap8)) n life next sure (some ⟨jb, joff, none⟩) jn jc (some ad) ln lc (k + 1) g8 cap8 gl lcap (jobs.take (k + 1)) log (q ++ [([.int .i64 tx, .slice (some ⟨g1, 0, none⟩) ol cp1, .int .i64 st, .slice (some ⟨gy, 0, none⟩) yl cy], [g1] ++ [gy])]) ql) := by
            refine ⟨hB8.grown s9.2 hB8.size (fun b e => by cases e; omega), (HA7.out.p.grown hgr8 (by simp; omega)).grown s9.2 (by simp <;> omega), (HA7.out.r.grown hgr8 (by simp; omega)).grown s9.2 (by simp <;> omega), s9.1, ?_, ?_, ?_, ?_⟩
            · refine hsn.keep fun b hk => s9.2.block b (hsn.at_ b hk) ?_
              rw [blocksOf_append] at hk
              have : w.heap.size + 3 ≤ b := by
                rcases List.mem_append.1 hk with h1 | h1
                · simp [Value.ownBlock] at h1; omega
                · rcases List.mem_append.1 h1 with h2 | h2
                  · exact hnw7 b (by simp [h2])
                  · have := hbig b (by simpa [blocksOf] using h2); omega
              simp; omega
            · refine hL8.keep fun b hk => s9.2.block b (hL8.at_ b hk) ?_
              rw [hqb] at hk
              simp [Value.ownBlock] at hk
              simp; omega
            · intro b hb
              rw [blocksOf_append] at hb
              rcases List.mem_cons.1 hb with h1 | h1
              · omega
              · rcases List.mem_cons.1 h1 with h2 | h2
                · omega
                · rcases List.mem_append.1 h2 with h3 | h3
                  · exact hnw7 b (by simp [h3])
                  · have := hbig b (by simpa [blocksOf] using h3); omega
            · intro hb
              rw [blocksOf_append] at hb
              have hlw := hA0l gl (by simp)
              rcases List.mem_cons.1 hb with h1 | h1
              · rcases hat8 with e | e
                · have : gj = g8 := by simpa [Value.ownBlock] using e
                  exact hne7 (by simp [h1, this])
                · omega
              · rcases List.mem_append.1 h1 with h3 | h3
                · exact hne7 (by simp [h3])
                · have := hbig gl (by simpa [blocksOf] using h3); omega
          obtain ⟨y0, y1, y2, y3, y4, y5⟩ := ho8.cells
          have yf := ho8.fz 3
          clear hsn hx hd hown8 hgrow8 hgr8 hL8 hB8 s9 ho8 HA7 HO7 HZ7
          go_wp2_with fail
          go_roundw
          case rel => exact ⟨k + 1, g8, cap8, _, by omega, by go_num, HA9.out⟩
          case measure => simp [intOf]; omega
      · have hnk : ¬ (k : Int) < (jn : Int) := by omega
        have hkj : k = jn := by omega
        subst hkj
        obtain ⟨o0, o1, o2, o3, o4, o5⟩ := hA.o.cells
        obtain ⟨r0, r1, r2, r3, r4, r5⟩ := hA.r.cells
        have f0 := hA.r.fz 0
        have f1 := hA.r.fz 1
        have f2 := hA.r.fz 2
        have f3 := hA.r.fz 3
        have f4 := hA.r.fz 4
        have f5 := hA.r.fz 5
        have hz := boxC_set6 hA.r n life next sure (some ⟨gj, 0, none⟩) k jcap (some ⟨gl, 0, none⟩) ln lcap
        have hzc := hz.1.cells
        have HZC := Hid.mk' hzc
        have htl : jobs.take k = jobs := List.take_of_length_le (by omega)
        have hnew := hA.new
        have HJO := Hid.mk' (show OwnG 65 jobR _ (.slice (some ⟨gj, 0, none⟩) k jcap) jobs q from by
          have h1 := hA.jobs
          rw [htl] at h1
          exact h1.keep fun b hk => hz.2.block b (h1.at_ b hk) (by
            have := hnew b (List.mem_cons_of_mem _ (by simpa [Value.ownBlock] using hk))
            simp; omega))
        have HLO := Hid.mk' (hA.log.keep fun b hk => hz.2.block b (hA.log.at_ b hk) (by
          rw [hqb] at hk
          simp [Value.ownBlock] at hk
          have := hnew gl (by simp)
          simp; omega))
        have HBZ := Hid.mk' (hA.bel.grown hz.2 hA.bel.size (fun b e => by cases e; omega))
        have HNW : Hid (∀ b ∈ gl :: gj :: blocksOf q, w.heap.size ≤ b) := fun b hb => by have := hnew b hb; omega
        have HNE := Hid.mk' hA.ne
        clear hz hzc hA hnew
        go_wp2_with fail
        have hzc := HZC.out
        refine bodyPost_ret (v := .agg #[.int .i64 n, .int .i64 life, .int .i64 next, .slice (some ⟨gj, 0, none⟩) k jcap, .slice (some ⟨gl, 0, none⟩) ln lcap, .int .i64 sure]) ?_ rfl (show CopyPost w k ln (n, life, next, jobs, log, sure) _ _ from ⟨gj, jcap, gl, lcap, q, ql, rfl, HJO.out, HLO.out, HNW.out, HNE.out, HBZ.out⟩)
        simp [results, Try.results33, go_sem, hzc.1, hzc.2.1, hzc.2.2.1, hzc.2.2.2.1, hzc.2.2.2.2.1, hzc.2.2.2.2.2]
end Go.Proofs.Yteniflajiklffaa.cos
