/- The specification's one who decides: a vote is heard. Plain mathematics of one who decides: what is right is small, and stays right in a new life. The specification's Begin. -/
import Derived.Test.YteniflajiklffaaShao
import Derived.Test.YteniflajiklffaaShak
namespace Go.Proofs.Yteniflajiklffaa.cos
open Go Go.RowKit Go.Proofs.Yteniflajiklffaa.base Go.Proofs.Yteniflajiklffaa.pairs Go.Proofs.Yteniflajiklffaa.ords Go.Proofs.Yteniflajiklffaa.lay Go.Proofs.Yteniflajiklffaa.wds
set_option linter.unusedVariables false
set_option linter.unusedSimpArgs false

theorem co_post {w U : World} {X : Nat} {T : TypeId} {pre post : List Value} {ja la : Option Addr} {jn jc ln lc : Nat} {c : Co} {F F1 F2 FJ FL : List Nat} (hX : BoxIn X T pre [.int .i64 c.1, .int .i64 c.2.1, .int .i64 c.2.2.1, .slice ja jn jc, .slice la ln lc, .int .i64 c.2.2.2.2.2] post U) (hJ : jobsR.own U [.slice ja jn jc] c.2.2.2.1 FJ) (hl : logR.own U [.slice la ln lc] c.2.2.2.2.1 FL) (hF : lay.Frame (X :: F) w U) (hwf : WfCo c) (hJF : ∀ k ∈ FJ, k ∈ F1 ∨ w.heap.size ≤ k) (hLF : ∀ k ∈ FL, k ∈ F2 ∨ w.heap.size ≤ k) (hdis : ∀ k ∈ FJ, k ∉ FL) (hXJ : X ∉ FJ) (hXL : X ∉ FL) (hFe : F = F1 ++ F2) : CoPost w X T pre post F c U := by
  have hown := coord_own.2 ⟨_, _, FJ, FL, rfl, hwf, hJ, hl, rfl, nodup_mk (jobsR.ownNodup hJ) (logR.ownNodup hl) hdis⟩
  refine ⟨ja, jn, jc, la, ln, lc, FJ ++ FL, ⟨hX, hown, fun e => ?_⟩, hF, fun k hk => ?_⟩
  · rcases List.mem_append.1 e with e | e
    · exact hXJ e
    · exact hXL e
  · rw [hFe]
    rcases List.mem_append.1 hk with e | e
    · exact (hJF k e).imp_left fun e => List.mem_append.2 (.inl e)
    · exact (hLF k e).imp_left fun e => List.mem_append.2 (.inr e)
theorem add_choice {W : World} {X : Nat} {T : TypeId} {pre post : List Value} {v0 v1 v2 v3 v5 : Value} {la : Option Addr} {ln lc : Nat} {log : List Ch} {ql : Parts} (hX : BoxIn X T pre [v0, v1, v2, v3, .slice la ln lc, v5] post W) (hL : OwnG 42 chR W (.slice la ln lc) log ql) (hXl : X ∉ (Value.slice la ln lc).ownBlock.toList) (tx : Int) (y : Bool) (htw : (Lit.int .i64 tx).wf = true) (hln : log.length ≤ 1048576) :
    ∃ gl cap' w6, (Builtin.append_ #[25, 25] 25 #[.slice la ln lc, .slice (some ⟨W.heap.size, 0, none⟩) 1 1]).run Try.prog (W.alloc (.cells #[.int .i64 tx, .bool y] 42)) = .ok (.slice (some ⟨gl, 0, none⟩) (ln + 1) cap') w6 ∧ BoxIn X T pre [v0, v1, v2, v3, .slice la ln lc, v5] post w6 ∧
      BoxIn X T pre [v0, v1, v2, v3, .slice (some ⟨gl, 0, none⟩) (ln + 1) cap', v5] post (w6.setCell ⟨X, pre.length + 4, none⟩ (.slice (some ⟨gl, 0, none⟩) (ln + 1) cap')) ∧ logR.own (w6.setCell ⟨X, pre.length + 4, none⟩ (.slice (some ⟨gl, 0, none⟩) (ln + 1) cap')) [.slice (some ⟨gl, 0, none⟩) (ln + 1) cap'] (log ++ [(tx, y)]) [gl] ∧ lay.Frame (X :: (Value.slice la ln lc).ownBlock.toList) W (w6.setCell ⟨X, pre.length + 4, none⟩ (.slice (some ⟨gl, 0, none⟩) (ln + 1) cap')) ∧ (gl ∈ (Value.slice la ln lc).ownBlock.toList ∨ W.heap.size ≤ gl) ∧ gl ≠ X := by
  have hlnl : ln = log.length := hL.sl.1.symm
  obtain ⟨V, hV⟩ : ∃ V, W.alloc (.cells #[.int .i64 tx, .bool y] 42) = V := ⟨_, rfl⟩
  have hbv : Below W.heap.size W V := by rw [← hV]; exact below_make
  have hNb : BoxIn W.heap.size 42 [] [.int .i64 tx, .bool y] [] V := by rw [← hV]; exact boxIn_new _ _ _
  have hx : chR.own V [.int .i64 tx, .bool y] (tx, y) [] := flat_ch.own.2 ⟨rfl, ⟨htw, trivial⟩, rfl⟩
  obtain ⟨gl, cap', w6, hrun, hO4, hgr, hat⟩ := OwnG.appRun (P := Try.prog) (z := .agg #[.int .i64 0, .bool false]) Try.underlying25 infoCh rfl (by decide) (hL.below hbv) hx (fun b hb => absurd hb List.not_mem_nil) hNb (by unfold maxLen; omega) (by omega) 25
  rw [← hlnl] at hrun hO4
  rw [hV]
  have hXW := hX.lt
  have hvs := hbv.size
  have hsv : V.heap.size = W.heap.size + 1 := by rw [← hV]; simp
  have hX6 := (hX.below hbv).grown hgr (fun e => hXl (by rw [← e]; simp))
  have hglX : gl ≠ X := fun e => by
    rcases hat with e2 | e2
    · exact hXl (by rw [← e, e2]; simp)
    · omega
  have hS := hX6.set 4 (by simp) (.slice (some ⟨gl, 0, none⟩) (ln + 1) cap')
  have hO5 := hO4.keep fun k hk => hS.2.block k (hO4.at_ k hk) (fun e => by
    rw [(flat_ch.parts hO4).2.2.1, List.append_nil] at hk
    have h1 : k = gl := by simpa [Value.ownBlock] using hk
    exact hglX (h1 ▸ Option.some.inj e))
  refine ⟨gl, cap', w6, hrun, hX6, hS.1, logs_own.2 ⟨⟨_, hO5⟩, rfl⟩, ?_, ?_, hglX⟩
  · refine ((lay.Frame.of_below hbv).grown hgr (fun k e => .inl (List.mem_cons_of_mem _ (by rw [e]; simp)))).grown hS.2 (fun k e => by cases e; exact .inl List.mem_cons_self)
  · rcases hat with e | e
    · exact .inl (by rw [e]; simp)
    · exact .inr (by omega)
theorem ownsRow_zero {w : World} {base ty size : Nat} {v : Value} {n : Nat} {xs : List Value} (h : w.ownsRow base ty size v n xs) : w.ownsRow 0 ty size v n xs := by
  refine ⟨h.1, ?_⟩
  rcases h.2 with h' | ⟨g, cap, cur, e, _, r⟩
  · exact .inl h'
  · exact .inr ⟨g, cap, cur, e, Nat.zero_le _, r⟩
theorem asc_len : ∀ {l : List Int} {a b : Int}, Asc l → (∀ x ∈ l, a ≤ x ∧ x ≤ b) → (l.length : Int) ≤ max 0 (b + 1 - a) := by
  intro l
  induction l with
  | nil => intro a b _ _; simp; omega
  | cons x l ih =>
    intro a b h h2
    unfold Asc at h
    rw [List.pairwise_cons] at h
    have h3 := h2 x List.mem_cons_self
    have := ih (a := x + 1) (b := b) h.2 (fun y hy => ⟨by have := h.1 y hy; omega, (h2 y (List.mem_cons_of_mem _ hy)).2⟩)
    simp only [List.length_cons]
    omega
theorem yes_len {n : Int} {ops : List Od} {yes : List Int} (hn : 1 ≤ n ∧ n ≤ 8) (h : yesOk (shardsOf n ops) none yes = true) : yes.length ≤ 8 ∧ Asc yes := by
  obtain ⟨h1, h2, _⟩ := yesOk_iff.1 h
  have := asc_len (a := 0) (b := 7) h2 (fun x hx => by
    obtain ⟨o, _, rfl⟩ := (shards_mem n ops x).1 (h1 x hx)
    have h3 := shardOf_range o.2.1 n
    have := h3.2 (by omega)
    omega)
  exact ⟨by omega, h2⟩
theorem CoPost.same {w w' : World} {X : Nat} {T : TypeId} {pre post : List Value} {ja la : Option Addr} {jn jc ln lc : Nat} {c : Co} {F : List Nat} (h : InCo w X T pre post ja jn jc la ln lc c F) (hb : Below w.heap.size w w') : CoPost w X T pre post F c w' := ⟨ja, jn, jc, la, ln, lc, F, h.below hb, lay.Frame.of_below hb, Fresh.refl _ _⟩
set_option maxRecDepth 100000 in
set_option maxHeartbeats 4000000 in
theorem spec_l11Vote (X : Nat) (T : TypeId) (pre post : List Value) (ja : Option Addr) (jn jc : Nat) (la : Option Addr) (ln lc : Nat) (c : Co) (F : List Nat) (shard tx : Int) (yes : Bool) (w : World) (h : InCo w X T pre post ja jn jc la ln lc c F) (hR : RightCo c) (hsw : (Lit.int .i64 shard).wf = true) (htw : (Lit.int .i64 tx).wf = true) (hj8 : c.2.2.2.1.length ≤ 1048576) :
    Calls Try.prog 93 #[.pointer (some ⟨X, pre.length, none⟩), .int .i64 shard, .int .i64 tx, .bool yes] w fun e w' => e = .returned (.tuple #[]) ∧ CoPost w X T pre post F (voteS c shard tx yes) w' := by
  have H0 := Hid.mk' h
  obtain ⟨hbx, hown, hXF⟩ := h
  have hXl := hbx.lt
  obtain ⟨vx, vy, F1, F2, e, hwf, hj, hl, hFe, hnd⟩ := coord_own.1 hown
  simp only [List.cons.injEq, and_true, true_and] at e
  obtain ⟨rfl, rfl⟩ := e
  obtain ⟨⟨ql, hL⟩, rfl⟩ := logs_own.1 hl
  obtain ⟨vj, qj, e, hF1, hJ⟩ := hj
  simp only [List.cons.injEq, and_true] at e
  subst e
  have hlnl : ln = c.2.2.2.2.1.length := hL.sl.1.symm
  have HBX := Hid.mk' hbx
  have HJA := Hid.mk' (spec_jobAt c.1 c.2.1 c.2.2.1 c.2.2.2.2.2 ja jn jc la ln lc c.2.2.2.1 tx w hJ.sl)
  obtain ⟨w1, hw1⟩ : ∃ w1, w.alloc (coO c.1 c.2.1 c.2.2.1 c.2.2.2.2.2 ja jn jc la ln lc) = w1 := ⟨_, rfl⟩
  rw [hw1] at HJA
  have hb1 : Below w.heap.size w w1 := by rw [← hw1]; exact below_make
  clear hw1
  have hnext : ∀ {k : Nat} (hk : jobAt c.2.2.2.1 tx = some k), ∃ hk2 : k < c.2.2.2.1.length, c.2.2.2.1[k].1 = tx := fun hk => by
    obtain ⟨h1, h2, _⟩ := findIdx_some hk
    exact ⟨h1, of_decide_eq_true h2⟩
  have hbc := cells6p hbx
  obtain ⟨y0, y1, y2, y3, y4, y5⟩ := hbc
  cases hja : jobAt c.2.2.2.1 tx with
  | none =>
    have HE : Hid (voteS c shard tx yes = c) := by show _ = _; unfold voteS votes; rw [hja]
    rw [hja] at HJA
    have HP := Hid.mk' (CoPost.same H0.out hb1)
    clear hja hnext hbx hown hl hL hJ hwf hnd hF1 hFe H0 hR HBX hlnl
    go_enter Try.func93, Try.ntmps93
    go_wp2_with fail
    refine HJA.out.mono ?_
    rintro e w2 ⟨rfl, rfl⟩
    clear HJA
    unfold idx
    clear y0 y1 y2 y3 y4 y5
    go_wp2_with fail
    first | (refine bodyPost_end (v := .tuple #[]) ?_ rfl ⟨rfl, by rw [HE.out]; exact HP.out⟩) | (refine bodyPost_ret (v := .tuple #[]) ?_ rfl ⟨rfl, by rw [HE.out]; exact HP.out⟩)
    simp [results, Try.results93, go_sem]
  | some k =>
    obtain ⟨hk, htx⟩ := hnext hja
    rw [hja] at HJA
    unfold idx at HJA
    simp only [] at HJA
    clear hnext
    obtain ⟨gj, rfl⟩ : ∃ gj, ja = some ⟨gj, 0, none⟩ := by
      rcases hJ.shape with ⟨e, e2, _⟩ | ⟨g, cap, e, _⟩
      · rw [e2] at hk; simp at hk
      · cases e; exact ⟨g, rfl⟩
    have hjl : jn = c.2.2.2.1.length := hJ.nlen
    have hJ1 := hJ.below hb1
    obtain ⟨us, FK, hu, hcl, hFK, -⟩ := hJ1.openF k hk
    obtain ⟨oa, ol, oc, ya, yl, yc, rfl⟩ := job_vals hu
    have d2 := hcl 2 _ rfl
    rw [show k * jobR.size + 2 = k * 4 + 2 from rfl] at d2
    have hx1 := HBX.out.below hb1
    obtain ⟨x0, x1, x2, x3, x4, x5⟩ := cells6p hx1
    have hki : (k : Int) < (jn : Int) := by omega
    have hk0 : ¬ (k : Int) < 0 := by omega
    by_cases hst : c.2.2.2.1[k].2.2.1 = 1
    rotate_left
    · have HE : Hid (voteS c shard tx yes = c) := by show _ = _; unfold voteS votes; rw [hja]; simp only [List.getElem?_eq_getElem hk]; rw [if_neg (fun e => hst e.1)]
      have HP := Hid.mk' (CoPost.same H0.out hb1)
      have hq1 : (c.2.2.2.1[k].2.2.1 != 1) = true := bne_iff_ne.2 hst
      clear hja hbx hown hl hL hJ hwf hnd hF1 hFe H0 hR HBX hlnl hJ1 hu hcl hFK hst x0 x1 x2 x4 x5 hx1 htx
      generalize c.2.2.2.1[k].2.2.1 = st at *
      clear hk hjl
      go_enter Try.func93, Try.ntmps93
      go_wp2_with fail
      refine HJA.out.mono ?_
      rintro e w2 ⟨rfl, rfl⟩
      clear HJA y0 y1 y2 y3 y4 y5
      go_wp2_with fail
      first | (refine bodyPost_end (v := .tuple #[]) ?_ rfl ⟨rfl, by rw [HE.out]; exact HP.out⟩) | (refine bodyPost_ret (v := .tuple #[]) ?_ rfl ⟨rfl, by rw [HE.out]; exact HP.out⟩)
      simp [results, Try.results93, go_sem]
    have hq1 : (c.2.2.2.1[k].2.2.1 != 1) = false := by rw [hst]; rfl
    by_cases hfull : 1000 ≤ ln
    · have HE : Hid (voteS c shard tx yes = c) := by show _ = _; unfold voteS votes; rw [hja]; simp only [List.getElem?_eq_getElem hk]; rw [if_neg (fun e => by have := e.2.1; omega)]
      have HP := Hid.mk' (CoPost.same H0.out hb1)
      have hfi : ¬ (ln : Int) < 1000 := by omega
      have hfi2 : (1000 : Int) ≤ (ln : Int) := by omega
      clear hja hbx hown hl hL hJ hwf hnd hF1 hFe H0 hR HBX hlnl hJ1 hu hcl hFK hst x0 x1 x2 x5 hx1 htx
      generalize c.2.2.2.1[k].2.2.1 = st at *
      clear hk hjl
      go_enter Try.func93, Try.ntmps93
      go_wp2_with fail
      refine HJA.out.mono ?_
      rintro e w2 ⟨rfl, rfl⟩
      clear HJA y0 y1 y2 y3 y4 y5
      go_wp2_with fail
      first | (refine bodyPost_end (v := .tuple #[]) ?_ rfl ⟨rfl, by rw [HE.out]; exact HP.out⟩) | (refine bodyPost_ret (v := .tuple #[]) ?_ rfl ⟨rfl, by rw [HE.out]; exact HP.out⟩)
      simp [results, Try.results93, go_sem]
    have hfi : (ln : Int) < 1000 := by omega
    have hfi2 : ¬ (1000 : Int) ≤ (ln : Int) := by omega
    have d1 := hcl 1 _ rfl
    rw [show k * jobR.size + 1 = k * 4 + 1 from rfl] at d1
    have hjf := hR.jobs _ (List.getElem_mem hk)
    have hyl := yes_len hR.n hjf.yes
    obtain ⟨vo, vyy, e, k1, k3, hoo, hyy, hFk, hndk⟩ := job_own.1 hu
    simp only [List.cons.injEq, and_true, true_and] at e
    obtain ⟨rfl, rfl⟩ := e
    have hSo : SlO w1 oa ol c.2.2.2.1[k].2.1 := (ops_see.1 (opsR.ownSee (ops_own.2 ⟨hoo, rfl⟩))).1
    have hol := hSo.1
    have hop8 := (opsOk_len hjf.ops).2
    have hnw := hwf.n
    have HSH := Hid.mk' (fun wx (hx : Below w1.heap.size w1 wx) => spec_shardsOf oa ol oc c.2.2.2.1[k].2.1 c.1 wx (hSo.below hx) (by omega) hnw)
    have HFU := Hid.mk' hfull
    have HTX := Hid.mk' htx
    have HST := Hid.mk' hst
    have HJF := Hid.mk' hjf
    have HYL := Hid.mk' hyl
    have HJ := Hid.mk' hJ
    have HL := Hid.mk' hL
    have HND := Hid.mk' hnd
    have HWF := Hid.mk' hwf
    have HLN := Hid.mk' hlnl
    have HJL := Hid.mk' hjl
    have HF1 := Hid.mk' hF1
    have HFE := Hid.mk' hFe
    have HJA2 := Hid.mk' hja
    have hFlt := coordR.ownLt hown
    have hshl : (shardsOf c.1 c.2.2.2.1[k].2.1).length ≤ 8 := shards_len _ _ hop8
    clear hfull htx hst hjf hyl hJ hL hl hnd hwf hlnl hjl hF1 hFe hja hown hbx hR hu hcl hoo hyy hFk hndk hSo hol hop8 hJ1 hFK
    obtain ⟨sh, hsh⟩ : ∃ sh, shardsOf c.1 c.2.2.2.1[k].2.1 = sh := ⟨_, rfl⟩
    have HSE := Hid.mk' hsh
    rw [hsh] at HSH hshl
    clear hsh
    go_enter Try.func93, Try.ntmps93
    go_wp2_with fail
    refine HJA.out.mono ?_
    rintro e w2 ⟨rfl, rfl⟩
    clear HJA y0 y1 y2 y3 y4 y5
    go_wp2_with fail
    have hdW : Below w2.heap.size w2 w2.drew := (Below.refl _ _).drew
    have hx1 := HBX.out.below hb1
    have hJd := HJ.out.below hb1
    refine last.wp_region_later (S := fun w' => Below w2.heap.size w2 w') 9 (by kernel_rfl) hdW (fun hHeld0 => ?_)
    generalize hD : w2.drew = D at *
    clear hD
    refine last.wpAnyL_take (i := 0) (v := (.pointer (some ⟨gj, k * 4, none⟩))) rfl rfl (by kernel_rfl) (by kernel_rfl) (by kernel_rfl) (by kernel_rfl) (fun _ _ _ h => h) (Or.inl ⟨by rfl, ?_⟩) (by assumption) ?_
    · intro wq hSq; go_simp
    try simp only [Act.put, List.setIfInBounds_toArray, List.set_cons_zero, List.set_cons_succ]
    refine last.wpAnyL_take (i := 1) (v := (.pointer (some ⟨gj, k * 4, none⟩))) rfl rfl (by kernel_rfl) (by kernel_rfl) (by kernel_rfl) (by kernel_rfl) (fun _ _ _ h => h) (Or.inl ⟨by rfl, ?_⟩) (by assumption) ?_
    · intro wq hSq; go_simp
    try simp only [Act.put, List.setIfInBounds_toArray, List.set_cons_zero, List.set_cons_succ]
    refine last.wpAnyL_take (i := 2) (v := (.pointer (some ⟨gj, k * 4 + 1, none⟩))) rfl rfl (by kernel_rfl) (by kernel_rfl) (by kernel_rfl) (by kernel_rfl) (fun _ _ _ h => h) (Or.inl ⟨by rfl, ?_⟩) (by assumption) ?_
    · intro wq hSq; go_simp
    try simp only [Act.put, List.setIfInBounds_toArray, List.set_cons_zero, List.set_cons_succ]
    refine last.wpAnyL_take (i := 3) (v := (.slice oa ol oc)) rfl rfl (by kernel_rfl) (by kernel_rfl) (by kernel_rfl) (by kernel_rfl) (fun _ _ _ h => h) (Or.inl ⟨by rfl, ?_⟩) (by assumption) ?_
    · intro wq hSq; have hgl : gj < w2.heap.size := hJd.lts gj List.mem_cons_self; have q := (hSq.cell (p := ⟨gj, k * 4 + 1, none⟩) hgl).trans d1; go_simp
    try simp only [Act.put, List.setIfInBounds_toArray, List.set_cons_zero, List.set_cons_succ]
    refine last.wpAnyL_take (i := 4) (v := (.pointer (some ⟨X, pre.length, none⟩))) rfl rfl (by kernel_rfl) (by kernel_rfl) (by kernel_rfl) (by kernel_rfl) (fun _ _ _ h => h) (Or.inl ⟨by rfl, ?_⟩) (by assumption) ?_
    · intro wq hSq; go_simp
    try simp only [Act.put, List.setIfInBounds_toArray, List.set_cons_zero, List.set_cons_succ]
    refine last.wpAnyL_take (i := 5) (v := (.pointer (some ⟨X, pre.length, none⟩))) rfl rfl (by kernel_rfl) (by kernel_rfl) (by kernel_rfl) (by kernel_rfl) (fun _ _ _ h => h) (Or.inl ⟨by rfl, ?_⟩) (by assumption) ?_
    · intro wq hSq; go_simp
    try simp only [Act.put, List.setIfInBounds_toArray, List.set_cons_zero, List.set_cons_succ]
    refine last.wpAnyL_take (i := 6) (v := (.pointer (some ⟨X, pre.length, none⟩))) rfl rfl (by kernel_rfl) (by kernel_rfl) (by kernel_rfl) (by kernel_rfl) (fun _ _ _ h => h) (Or.inl ⟨by rfl, ?_⟩) (by assumption) ?_
    · intro wq hSq; go_simp
    try simp only [Act.put, List.setIfInBounds_toArray, List.set_cons_zero, List.set_cons_succ]
    refine last.wpAnyL_take (i := 7) (v := (.int .i64 c.1)) rfl rfl (by kernel_rfl) (by kernel_rfl) (by kernel_rfl) (by kernel_rfl) (fun _ _ _ h => h) (Or.inl ⟨by rfl, ?_⟩) (by assumption) ?_
    · intro wq hSq; have q := (cells6p (hx1.below hSq)).1; go_simp
    try simp only [Act.put, List.setIfInBounds_toArray, List.set_cons_zero, List.set_cons_succ]
    refine last.wpAnyL_one (i := 8) (o := { dst := some 51, op := Op.call { callee := Callee.value (Operand.func 92), args := #[Operand.tmp 46, Operand.tmp 50], argTypes := #[28, 3] }, type := 34, pos := "l11_coord.go:118", after := #[{ on := 3, ground := Ground.data }, { on := 7, ground := Ground.data }], guard := none }) (by kernel_rfl) rfl (fun K hK => ?_)
    refine stepg.call2 rfl 92 (.tmp 46) (.tmp 50) _ rfl (fun _ _ => rfl) (.slice oa ol oc) (.int .i64 c.1) (by kernel_rfl) (by kernel_rfl) _ (HSH.out _ hdW) ?_
    rintro e w3 ⟨gs, ns, cs, rfl, hZ, hb3'⟩
    refine ⟨_, rfl, ?_⟩
    have hb3 := hdW.trans (hb3'.mono hdW.size)
    refine hK.out _ _ ?_ (fun hHeld => ?_)
    · exact hb3
    clear hK K hHeld0
    have hHeld0 := hHeld
    clear hHeld
    try simp only [Act.put, List.setIfInBounds_toArray, List.set_cons_zero, List.set_cons_succ]
    refine last.wpAnyL_last (o := { dst := some 10, op := Op.assign (Operand.tmp 51), type := 34, pos := "l11_coord.go:118", after := #[{ on := 8, ground := Ground.data }, { on := 8, ground := Ground.chain }, { on := 0, ground := Ground.phase }, { on := 1, ground := Ground.phase }, { on := 2, ground := Ground.phase }, { on := 3, ground := Ground.phase }, { on := 4, ground := Ground.phase }, { on := 5, ground := Ground.phase }, { on := 6, ground := Ground.phase }, { on := 7, ground := Ground.phase }, { on := 8, ground := Ground.phase }], guard := none }) (by kernel_rfl) rfl (by kernel_rfl) (fun K hK => ?_)
    go_simp
    refine hK.out _ _ ?_
    clear hK K
    clear hHeld0 d1 d2 x0 x1 x2 x3 x4 x5 HSH
    have hB3 := hb1.trans (hb3.mono hb1.size)
    have hzl := hZ.1
    have HHAS := Hid.mk' (spec_l7Has (some ⟨gs, 0, none⟩) ns cs sh shard w3 hZ.sl)
    by_cases hin : shard ∈ sh
    rotate_left
    · rw [decide_eq_false hin] at HHAS
      have HE : Hid (voteS c shard tx yes = c) := by
        show _ = _
        unfold voteS votes
        rw [HJA2.out]
        simp only [List.getElem?_eq_getElem hk]
        rw [if_neg (fun e => hin (by rw [← HSE.out]; exact e.2.2))]
      have HP := Hid.mk' (CoPost.same H0.out hB3)
      clear hin H0 hx1 hJd hZ
      go_wp2_with fail
      refine HHAS.out.mono ?_
      rintro e w4 ⟨rfl, rfl⟩
      clear HHAS
      go_wp2_with fail
      first | (refine bodyPost_end (v := .tuple #[]) ?_ rfl ⟨rfl, by rw [HE.out]; exact HP.out⟩) | (refine bodyPost_ret (v := .tuple #[]) ?_ rfl ⟨rfl, by rw [HE.out]; exact HP.out⟩)
      simp [results, Try.results93, go_sem]
    rw [decide_eq_true hin] at HHAS
    have hfull := HFU.out
    have hVOT : Hid (∀ y, voteS c shard tx y = votedC c k c.2.2.2.1[k] shard y) := fun y => by
      have hv : votes c shard tx = some k := by
        unfold votes
        rw [HJA2.out]
        simp only [List.getElem?_eq_getElem hk]
        rw [if_pos ⟨HST.out, by have := HLN.out; omega, by rw [HSE.out]; exact hin⟩]
      exact voteS_eq hv hk
    clear hin hfull H0 HFU HJA2
    have hJ3 := HJ.out.below hB3
    have hL3 := HL.out.below hB3
    have hx3 := HBX.out.below hB3
    have hF3 : lay.Frame (X :: F) w w3 := lay.Frame.of_below hB3
    have hgj1 : gj ∈ F1 := by rw [HF1.out]; exact List.mem_append.2 (.inl (by simp [Value.ownBlock]))
    have hgjF : gj ∈ F := by rw [HFE.out]; exact List.mem_append.2 (.inl hgj1)
    have hqjF : ∀ b ∈ blocksOf qj, b ∈ F1 := fun b hb => by rw [HF1.out]; exact List.mem_append.2 (.inr hb)
    have hXj : gj ≠ X := fun e => hXF (e ▸ hgjF)
    have hXlb : X ∉ (Value.slice la ln lc).ownBlock.toList := fun e => hXF (by rw [HFE.out]; exact List.mem_append.2 (.inr e))
    have hjlb : ∀ b ∈ F1, b ∉ (Value.slice la ln lc).ownBlock.toList := fun b hb => by
      have h3 := HND.out
      rw [HFE.out] at h3
      exact (nodup_parts h3).2.2 b hb
    have hlb : ∀ b ∈ (Value.slice la ln lc).ownBlock.toList, b < w.heap.size := fun b hb => hFlt b (by rw [HFE.out]; exact List.mem_append.2 (.inr hb))
    have hB3s := hB3.size
    have hlog8 : c.2.2.2.2.1.length ≤ 1048576 := by have := HLN.out; omega
    cases yes
    · have hV := hVOT.out false
      obtain ⟨us, FK, hu, hcl, hFK, hbk⟩ := hJ3.openF k hk
      obtain ⟨oa3, ol3, oc3, ya3, yl3, yc3, rfl⟩ := job_vals hu
      have d2 := hcl 2 _ rfl
      have f2 := hJ3.frozen (k * 4 + 2)
      obtain ⟨q4, hJ4, hq4, hg4, -⟩ := hbk 2 (.int .i64 3) (c.2.2.2.1[k].1, c.2.2.2.1[k].2.1, 3, c.2.2.2.1[k].2.2.2) FK (by decide) (by
        obtain ⟨v1, v2, e, k1, k3, h1, h2, h3, h4⟩ := job_own.1 hu
        exact job_own.2 ⟨_, _, by rw [e]; rfl, k1, (by decide : (Lit.int .i64 3).wf = true), h1, h2, h3, h4⟩) (fun b hb => .inl hb)
      rw [show k * jobR.size + 2 = k * 4 + 2 from rfl] at hJ4 hg4 d2
      obtain ⟨W4, hW4⟩ : ∃ W4, w3.setCell ⟨gj, k * 4 + 2, none⟩ (.int .i64 3) = W4 := ⟨_, rfl⟩
      rw [hW4] at hJ4 hg4
      have hX4 := hx3.grown hg4 (fun e => hXj (Option.some.inj e).symm)
      have hL4 := hL3.keep fun b hb => hg4.block b (hL3.at_ b hb) (fun e => by
        rw [(flat_ch.parts HL.out).2.2.1, List.append_nil] at hb
        exact hjlb gj hgj1 (Option.some.inj e ▸ hb))
      have hF4 : lay.Frame (X :: F) w W4 := hF3.grown hg4 (fun b e => by cases e; exact .inl (List.mem_cons_of_mem _ hgjF))
      have hqb : ∀ b ∈ gj :: blocksOf q4, (b ∈ F1 ∨ w.heap.size ≤ b) ∧ b ≠ X := fun b hb => by
        have hb1 : b ∈ F1 := by
          rcases List.mem_cons.1 hb with e | e
          · rw [e]; exact hgj1
          · rcases hq4 b e with e2 | e2
            · exact hqjF b e2
            · exact hqjF b (hFK b e2)
        exact ⟨.inl hb1, fun e => hXF (by rw [HFE.out, ← e]; exact List.mem_append.2 (.inl hb1))⟩
      obtain ⟨gl, lcap, w6, hrun, hX6, hX7, hl7, hF7, hgl, hglX⟩ := add_choice hX4 hL4 hXlb tx false htw hlog8
      obtain ⟨U, hU⟩ : ∃ U, w6.setCell ⟨X, pre.length + 4, none⟩ (.slice (some ⟨gl, 0, none⟩) (ln + 1) lcap) = U := ⟨_, rfl⟩
      rw [hU] at hX7 hl7 hF7
      have x4 := hX6.cell 4 _ rfl
      have f4 := hX6.fz (pre.length + 4)
      have hJ7 := hJ4.keep fun b hb => hF7.block b (hJ4.at_ b hb) (fun e => by
        have h1 := hqb b (by simpa [Value.ownBlock] using hb)
        rcases List.mem_cons.1 e with e | e
        · exact h1.2 e
        · rcases h1.1 with h2 | h2
          · exact hjlb b h2 e
          · have := hlb b e; omega)
      have hFU : lay.Frame (X :: F) w U := hF4.trans hF7 (fun b hb => by
        rcases List.mem_cons.1 hb with e | e
        · exact .inl (by rw [e]; exact List.mem_cons_self)
        · exact .inl (List.mem_cons_of_mem _ (by rw [HFE.out]; exact List.mem_append.2 (.inr e))))
      have hs4 : w.heap.size ≤ W4.heap.size := hF4.size
      have HP : Hid (CoPost w X T pre post F (c.1, c.2.1, c.2.2.1, c.2.2.2.1.set k (c.2.2.2.1[k].1, c.2.2.2.1[k].2.1, 3, c.2.2.2.1[k].2.2.2), c.2.2.2.2.1 ++ [(tx, false)], c.2.2.2.2.2) U) := co_post (c := (c.1, c.2.1, c.2.2.1, c.2.2.2.1.set k (c.2.2.2.1[k].1, c.2.2.2.1[k].2.1, 3, c.2.2.2.1[k].2.2.2), c.2.2.2.2.1 ++ [(tx, false)], c.2.2.2.2.2)) (F1 := F1) (F2 := (Value.slice la ln lc).ownBlock.toList) hX7 ⟨_, _, rfl, rfl, hJ7⟩ hl7 hFU ⟨HWF.out.n, HWF.out.life, HWF.out.next, HWF.out.sure⟩ (fun b hb => (hqb b (by simpa [Value.ownBlock] using hb)).1) (fun b hb => by
        rw [List.mem_singleton] at hb
        subst hb
        exact hgl.imp_right (fun e => by omega)) (fun b hb hb2 => by
        rw [List.mem_singleton] at hb2
        subst hb2
        have h1 := hqb b (by simpa [Value.ownBlock] using hb)
        rcases hgl with e | e
        · rcases h1.1 with h2 | h2
          · exact hjlb b h2 e
          · have := hlb b e; omega
        · have := hJ4.at_ b hb; omega) (fun e => (hqb X (by simpa [Value.ownBlock] using e)).2 rfl) (fun e => by
        rw [List.mem_singleton] at e
        exact hglX e.symm) HFE.out
      have HU := Hid.mk' hU
      clear hU hX7 hl7 hF7 hJ7 hFU
      have HE : Hid (voteS c shard tx false = (c.1, c.2.1, c.2.2.1, c.2.2.2.1.set k (c.2.2.2.1[k].1, c.2.2.2.1[k].2.1, 3, c.2.2.2.1[k].2.2.2), c.2.2.2.2.1 ++ [(tx, false)], c.2.2.2.2.2)) := by
        show _ = _
        rw [hV]
        unfold votedC votedJ
        simp only [Bool.false_eq_true, if_false]
        rw [show addCh c.2.2.2.2.1 c.2.2.2.1[k].1 (some false) = c.2.2.2.2.1 ++ [(c.2.2.2.1[k].1, false)] from rfl, HTX.out]
      have hszW : W4.heap.size = w3.heap.size := by rw [← hW4]; simp
      rw [hszW] at hrun
      clear hszW
      have HW4 := Hid.mk' hW4
      have a4 := hX4.cell 4 _ rfl
      rw [← hW4] at a4
      clear hV hVOT hu hcl hFK hbk hJ4 hg4 hX4 hL4 hF4 hqb hW4 hX6 hJ3 hL3 hx3 hJd hx1 hZ
      go_wp2_with fail
      refine HHAS.out.mono ?_
      rintro e w9 ⟨rfl, hw9⟩
      replace hw9 := hw9.symm
      subst hw9
      clear HHAS
      go_wp2_with (at_builtin; rw [HW4.out]; refine wpList_append_run rfl _ _ 25 rfl (by kernel_rfl) (by kernel_rfl) hrun ?_)
      go_wp2_with fail
      rw [HU.out]
      first | (refine bodyPost_end (v := .tuple #[]) ?_ rfl ⟨rfl, by rw [HE.out]; exact HP.out⟩) | (refine bodyPost_ret (v := .tuple #[]) ?_ rfl ⟨rfl, by rw [HE.out]; exact HP.out⟩)
      simp [results, Try.results93, go_sem]
    · have hV := hVOT.out true
      obtain ⟨us, FK, hu, hcl, hFK, -⟩ := hJ3.openF k hk
      obtain ⟨oa3, ol3, oc3, ya3, yl3, yc3, rfl⟩ := job_vals hu
      have d3 := hcl 3 _ rfl
      rw [show k * jobR.size + 3 = k * 4 + 3 from rfl] at d3
      obtain ⟨vo, vyy, e, k1, k3, hoo, hyy, hFk, hndk⟩ := job_own.1 hu
      simp only [List.cons.injEq, and_true, true_and] at e
      obtain ⟨rfl, rfl⟩ := e
      have hSy := (ints_see.1 (intsR.ownSee (ints_own.2 ⟨hyy, rfl⟩)))
      have hyl8 := HYL.out.1
      have hyll := hSy.1.1.1
      have HD3 := Hid.mk' d3
      have HPUT : Hid (Calls Try.prog 129 #[.slice ya3 yl3 yc3, .int .i64 shard] w3 fun e w' => ∃ ra rn rc FR, e = .returned (.slice ra rn rc) ∧ OwnZV w' (.slice ra rn rc) (putI c.2.2.2.1[k].2.2.2 shard) ∧ FR = (Value.slice ra rn rc).ownBlock.toList ∧ (∀ b ∈ FR, b ∈ (Value.slice ya3 yl3 yc3).ownBlock.toList ∨ w3.heap.size ≤ b) ∧ Below w3.heap.size w3 w') := by
        by_cases hin : shard ∈ c.2.2.2.1[k].2.2.2
        · refine (spec_putIn ya3 yl3 yc3 c.2.2.2.1[k].2.2.2 shard w3 hSy.1.1 hin).mono ?_
          rintro e w' ⟨rfl, rfl⟩
          refine ⟨ya3, yl3, yc3, _, rfl, ?_, rfl, fun b hb => .inl hb, Below.refl _ _⟩
          rw [show putI c.2.2.2.1[k].2.2.2 shard = c.2.2.2.1[k].2.2.2 from if_pos hin]
          exact hyy
        · refine (spec_putNew ya3 yl3 yc3 c.2.2.2.1[k].2.2.2 shard w3 hSy.1.1 hin hSy.1.2 hSy.2 HYL.out.2 (by omega)).mono ?_
          rintro e w' ⟨g', n', cap', rfl, hO, hb⟩
          refine ⟨_, n', cap', _, rfl, ⟨fun z hz => ?_, ?_⟩, rfl, fun b hb2 => ?_, hb⟩
          · rcases (putI_mem _ _ z).1 hz with e | e
            · exact hSy.1.2 z e
            · rw [e]; exact hsw
          · rw [hO.1]; exact ownsRow_zero hO.2
          · have e : b = g' := by simpa [Value.ownBlock] using hb2
            rw [e]
            exact .inr hO.lt.1
      clear hu hcl hFK hoo hyy hFk hndk hSy
      go_wp2_with fail
      refine HHAS.out.mono ?_
      rintro e w9 ⟨rfl, hw9⟩
      replace hw9 := hw9.symm
      subst hw9
      clear HHAS
      go_wp2_with fail
      refine HPUT.out.mono ?_
      rintro e W4 ⟨ra, rn, rc, FR, rfl, hyr, hFR, hFRb, hb4⟩
      clear HPUT d3
      have hJ4 := hJ3.below hb4
      have hL4 := hL3.below hb4
      have hx4 := hx3.below hb4
      have hF4 := hF3.below hb4
      have hb4s := hb4.size
      have hrn : rn = (putI c.2.2.2.1[k].2.2.2 shard).length := by
        rcases hyr.2.2 with ⟨e, e2⟩ | ⟨g', c', cur, e, _⟩
        · cases e; omega
        · cases e; rfl
      obtain ⟨us, FK, hu, hcl, hFK, hbk⟩ := hJ4.openF k hk
      obtain ⟨oa4, ol4, oc4, ya4, yl4, yc4, rfl⟩ := job_vals hu
      have d3 := hcl 3 _ rfl
      have f3 := hJ4.frozen (k * 4 + 3)
      rw [show k * jobR.size + 3 = k * 4 + 3 from rfl] at d3
      have hgl3 : gj < w3.heap.size := hJ3.lts gj List.mem_cons_self
      have hsame : Value.slice ya4 yl4 yc4 = Value.slice ya3 yl3 yc3 := by
        have h1 := (hb4.cell (p := ⟨gj, k * 4 + 3, none⟩) hgl3).trans HD3.out
        rw [d3] at h1
        exact Option.some.inj h1
      obtain ⟨vo, vyy, e, k1, k3, hoo, hyy, hFk, hndk⟩ := job_own.1 hu
      simp only [List.cons.injEq, and_true, true_and] at e
      obtain ⟨rfl, rfl⟩ := e
      have hFRn : ∀ b ∈ FR, b ∈ FK ∨ w3.heap.size ≤ b := fun b hb => (hFRb b hb).imp_left fun e => by rw [hFk]; exact List.mem_append.2 (.inr (by rw [hsame]; exact e))
      have hoFK : ∀ b ∈ (Value.slice oa4 ol4 oc4).ownBlock.toList, b ∈ FK := fun b hb => by rw [hFk]; exact List.mem_append.2 (.inl hb)
      have hq3 : ∀ b ∈ gj :: blocksOf qj, b < w3.heap.size := fun b hb => hJ3.lts b hb
      have hFRl := intsR.ownNodup (ints_own.2 ⟨hyr, hFR⟩)
      have hjn : jobR.own W4 [.int .i64 c.2.2.2.1[k].1, .slice oa4 ol4 oc4, .int .i64 c.2.2.2.1[k].2.2.1, .slice ra rn rc] (c.2.2.2.1[k].1, c.2.2.2.1[k].2.1, c.2.2.2.1[k].2.2.1, putI c.2.2.2.1[k].2.2.2 shard) ((Value.slice oa4 ol4 oc4).ownBlock.toList ++ FR) := by
        refine job_own.2 ⟨_, _, rfl, k1, k3, hoo, hyr, by rw [hFR], ?_⟩
        rw [hFk] at hndk
        refine nodup_mk (nodup_parts hndk).1 hFRl fun b hb hb2 => ?_
        rcases hFRb b hb2 with e | e
        · exact (nodup_parts hndk).2.2 b hb (by rw [hsame]; exact e)
        · have := hq3 b (List.mem_cons_of_mem _ (hFK b (hoFK b hb))); omega
      obtain ⟨q5, hJ5, hq5, hg5, hc5⟩ := hbk 3 (.slice ra rn rc) _ _ (by decide) hjn (fun b hb => by
        rcases List.mem_append.1 hb with e | e
        · exact .inl (hoFK b e)
        · exact (hFRn b e).imp_right fun e2 hm => by have := hq3 b hm; omega)
      have e3 := hc5 3 _ rfl
      have e2 := hc5 2 _ rfl
      rw [show k * jobR.size + 3 = k * 4 + 3 from rfl] at hJ5 hg5 e3 e2
      rw [show k * jobR.size + 2 = k * 4 + 2 from rfl] at e2
      obtain ⟨W5, hW5⟩ : ∃ W5, W4.setCell ⟨gj, k * 4 + 3, none⟩ (.slice ra rn rc) = W5 := ⟨_, rfl⟩
      rw [hW5] at hJ5 hg5
      have hX5 := hx4.grown hg5 (fun e => hXj (Option.some.inj e).symm)
      have hL5 := hL4.keep fun b hb => hg5.block b (hL4.at_ b hb) (fun e => by
        rw [(flat_ch.parts HL.out).2.2.1, List.append_nil] at hb
        exact hjlb gj hgj1 (Option.some.inj e ▸ hb))
      have hF5 : lay.Frame (X :: F) w W5 := hF4.grown hg5 (fun b e => by cases e; exact .inl (List.mem_cons_of_mem _ hgjF))
      have hF1X : ∀ b ∈ F1, b ≠ X := fun b hb e => hXF (by rw [HFE.out, ← e]; exact List.mem_append.2 (.inl hb))
      have hqb5 : ∀ b ∈ gj :: blocksOf q5, (b ∈ F1 ∨ w.heap.size ≤ b) ∧ b ≠ X := fun b hb => by
        have hb1 : b ∈ F1 ∨ w.heap.size ≤ b := by
          rcases List.mem_cons.1 hb with e | e
          · rw [e]; exact .inl hgj1
          · rcases hq5 b e with e2 | e2
            · exact .inl (hqjF b e2)
            · rcases List.mem_append.1 e2 with e4 | e4
              · exact .inl (hqjF b (hFK b (hoFK b e4)))
              · rcases hFRn b e4 with e6 | e6
                · exact .inl (hqjF b (hFK b e6))
                · exact .inr (by omega)
        refine ⟨hb1, fun e => ?_⟩
        rcases hb1 with e2 | e2
        · exact hF1X b e2 e
        · omega
      have HW5 := Hid.mk' hW5
      have hst1 := HST.out
      by_cases hall : rn = ns
      · have hqe : ((rn : Int) == (ns : Int)) = true := by rw [hall]; simp
        obtain ⟨us5, FK5, hu5, hcl5, hFK5, hbk5⟩ := hJ5.openF k (by simpa using hk)
        rw [set_at hk] at hu5
        obtain ⟨oa5, ol5, oc5, ya5, yl5, yc5, rfl⟩ := job_vals hu5
        have f2 := hJ5.frozen (k * 4 + 2)
        obtain ⟨q6, hJ6, hq6, hg6, -⟩ := hbk5 2 (.int .i64 2) (c.2.2.2.1[k].1, c.2.2.2.1[k].2.1, 2, putI c.2.2.2.1[k].2.2.2 shard) FK5 (by decide) (by
          obtain ⟨v1, v2, e, k1, k3, h1, h2, h3, h4⟩ := job_own.1 hu5
          exact job_own.2 ⟨_, _, by rw [e]; rfl, k1, (by decide : (Lit.int .i64 2).wf = true), h1, h2, h3, h4⟩) (fun b hb => .inl hb)
        rw [show k * jobR.size + 2 = k * 4 + 2 from rfl] at hJ6 hg6
        rw [List.set_set] at hJ6
        obtain ⟨W6, hW6⟩ : ∃ W6, W5.setCell ⟨gj, k * 4 + 2, none⟩ (.int .i64 2) = W6 := ⟨_, rfl⟩
        rw [hW6] at hJ6 hg6
        have hX6' := hX5.grown hg6 (fun e => hXj (Option.some.inj e).symm)
        have hL6 := hL5.keep fun b hb => hg6.block b (hL5.at_ b hb) (fun e => by
          rw [(flat_ch.parts HL.out).2.2.1, List.append_nil] at hb
          exact hjlb gj hgj1 (Option.some.inj e ▸ hb))
        have hF6 : lay.Frame (X :: F) w W6 := hF5.grown hg6 (fun b e => by cases e; exact .inl (List.mem_cons_of_mem _ hgjF))
        have hqb6 : ∀ b ∈ gj :: blocksOf q6, (b ∈ F1 ∨ w.heap.size ≤ b) ∧ b ≠ X := fun b hb => by
          rcases List.mem_cons.1 hb with e | e
          · exact hqb5 b (by rw [e]; exact List.mem_cons_self)
          · rcases hq6 b e with e2 | e2
            · exact hqb5 b (List.mem_cons_of_mem _ e2)
            · exact hqb5 b (List.mem_cons_of_mem _ (hFK5 b e2))
        obtain ⟨gl, lcap, w6, hrun, hX6, hX7, hl7, hF7, hgl, hglX⟩ := add_choice hX6' hL6 hXlb tx true htw hlog8
        obtain ⟨U, hU⟩ : ∃ U, w6.setCell ⟨X, pre.length + 4, none⟩ (.slice (some ⟨gl, 0, none⟩) (ln + 1) lcap) = U := ⟨_, rfl⟩
        rw [hU] at hX7 hl7 hF7
        have x4 := hX6.cell 4 _ rfl
        have f4 := hX6.fz (pre.length + 4)
        have hJ7 := hJ6.keep fun b hb => hF7.block b (hJ6.at_ b hb) (fun e => by
          have h1 := hqb6 b (by simpa [Value.ownBlock] using hb)
          rcases List.mem_cons.1 e with e | e
          · exact h1.2 e
          · rcases h1.1 with h2 | h2
            · exact hjlb b h2 e
            · have := hlb b e; omega)
        have hFU : lay.Frame (X :: F) w U := hF6.trans hF7 (fun b hb => by
          rcases List.mem_cons.1 hb with e | e
          · exact .inl (by rw [e]; exact List.mem_cons_self)
          · exact .inl (List.mem_cons_of_mem _ (by rw [HFE.out]; exact List.mem_append.2 (.inr e))))
        have hs4 : w.heap.size ≤ W6.heap.size := hF6.size
        have HP : Hid (CoPost w X T pre post F (c.1, c.2.1, c.2.2.1, c.2.2.2.1.set k (c.2.2.2.1[k].1, c.2.2.2.1[k].2.1, 2, putI c.2.2.2.1[k].2.2.2 shard), c.2.2.2.2.1 ++ [(tx, true)], c.2.2.2.2.2) U) := co_post (c := (c.1, c.2.1, c.2.2.1, c.2.2.2.1.set k (c.2.2.2.1[k].1, c.2.2.2.1[k].2.1, 2, putI c.2.2.2.1[k].2.2.2 shard), c.2.2.2.2.1 ++ [(tx, true)], c.2.2.2.2.2)) (F1 := F1) (F2 := (Value.slice la ln lc).ownBlock.toList) hX7 ⟨_, _, rfl, rfl, hJ7⟩ hl7 hFU ⟨HWF.out.n, HWF.out.life, HWF.out.next, HWF.out.sure⟩ (fun b hb => (hqb6 b (by simpa [Value.ownBlock] using hb)).1) (fun b hb => by
          rw [List.mem_singleton] at hb
          subst hb
          exact hgl.imp_right (fun e => by omega)) (fun b hb hb2 => by
          rw [List.mem_singleton] at hb2
          subst hb2
          have h1 := hqb6 b (by simpa [Value.ownBlock] using hb)
          rcases hgl with e | e
          · rcases h1.1 with h2 | h2
            · exact hjlb b h2 e
            · have := hlb b e; omega
          · have := hJ6.at_ b hb; omega) (fun e => (hqb6 X (by simpa [Value.ownBlock] using e)).2 rfl) (fun e => by
          rw [List.mem_singleton] at e
          exact hglX e.symm) HFE.out
        have HU := Hid.mk' hU
        clear hU hX7 hl7 hF7 hJ7 hFU
        have HE : Hid (voteS c shard tx true = (c.1, c.2.1, c.2.2.1, c.2.2.2.1.set k (c.2.2.2.1[k].1, c.2.2.2.1[k].2.1, 2, putI c.2.2.2.1[k].2.2.2 shard), c.2.2.2.2.1 ++ [(tx, true)], c.2.2.2.2.2)) := by
          show _ = _
          rw [hV]
          unfold votedC votedJ
          rw [HSE.out, if_pos rfl, if_pos (by omega)]
          simp only []
          rw [show addCh c.2.2.2.2.1 c.2.2.2.1[k].1 (some true) = c.2.2.2.2.1 ++ [(c.2.2.2.1[k].1, true)] from rfl, HTX.out]
        have a4 := hX6'.cell 4 _ rfl
        rw [← hW6] at a4
        rw [← HW5.out] at a4 f2
        have hszW : W6.heap.size = W4.heap.size := by rw [← hW6, ← HW5.out]; simp
        rw [hszW] at hrun
        clear hszW
        have HW6 := Hid.mk' hW6
        clear hV hVOT hu hcl hFK hbk hJ4 hg5 hX5 hL5 hF5 hqb5 hJ5 hJ3 hL3 hx3 hJd hx1 hZ hL4 hx4 hF4 hc5 hu5 hcl5 hFK5 hbk5 hJ6 hg6 hX6' hL6 hF6 hqb6 hW5 hW6 hX6 hyr hjn hoo hyy hall hrn hq5 hq6 HD3 HSE HYL
        generalize c.2.2.2.1[k].2.2.1 = st at *
        go_wp2_with (at_builtin; rw [HW5.out, HW6.out]; refine wpList_append_run rfl _ _ 25 rfl (by kernel_rfl) (by kernel_rfl) hrun ?_)
        go_wp2_with fail
        rw [HU.out]
        first | (refine bodyPost_end (v := .tuple #[]) ?_ rfl ⟨rfl, by rw [HE.out]; exact HP.out⟩) | (refine bodyPost_ret (v := .tuple #[]) ?_ rfl ⟨rfl, by rw [HE.out]; exact HP.out⟩)
        simp [results, Try.results93, go_sem]
      · have hqe : ((rn : Int) == (ns : Int)) = false := beq_eq_false_iff_ne.2 (by omega)
        have HP : Hid (CoPost w X T pre post F (c.1, c.2.1, c.2.2.1, c.2.2.2.1.set k (c.2.2.2.1[k].1, c.2.2.2.1[k].2.1, c.2.2.2.1[k].2.2.1, putI c.2.2.2.1[k].2.2.2 shard), c.2.2.2.2.1, c.2.2.2.2.2) W5) := co_post (c := (c.1, c.2.1, c.2.2.1, c.2.2.2.1.set k (c.2.2.2.1[k].1, c.2.2.2.1[k].2.1, c.2.2.2.1[k].2.2.1, putI c.2.2.2.1[k].2.2.2 shard), c.2.2.2.2.1, c.2.2.2.2.2)) (F1 := F1) (F2 := (Value.slice la ln lc).ownBlock.toList) hX5 ⟨_, _, rfl, rfl, hJ5⟩ (logs_own.2 ⟨⟨_, hL5⟩, rfl⟩) hF5 ⟨HWF.out.n, HWF.out.life, HWF.out.next, HWF.out.sure⟩ (fun b hb => (hqb5 b (by simpa [Value.ownBlock] using hb)).1) (fun b hb => .inl hb) (fun b hb hb2 => by
          rcases (hqb5 b (by simpa [Value.ownBlock] using hb)).1 with e | e
          · exact hjlb b e hb2
          · have := hlb b hb2; omega) (fun e => (hqb5 X (by simpa [Value.ownBlock] using e)).2 rfl) hXlb HFE.out
        have HE : Hid (voteS c shard tx true = (c.1, c.2.1, c.2.2.1, c.2.2.2.1.set k (c.2.2.2.1[k].1, c.2.2.2.1[k].2.1, c.2.2.2.1[k].2.2.1, putI c.2.2.2.1[k].2.2.2 shard), c.2.2.2.2.1, c.2.2.2.2.2)) := by
          show _ = _
          rw [hV]
          unfold votedC votedJ
          rw [HSE.out, if_pos rfl, if_neg (by omega)]
          rfl
        clear hV hVOT hu hcl hFK hbk hJ4 hg5 hX5 hL5 hF5 hqb5 hJ5 hJ3 hL3 hx3 hJd hx1 hZ hL4 hx4 hF4 hc5 hW5 hyr hjn hoo hyy hall hrn hq5 HD3 HSE HYL
        go_wp2_with fail
        rw [HW5.out]
        first | (refine bodyPost_end (v := .tuple #[]) ?_ rfl ⟨rfl, by rw [HE.out]; exact HP.out⟩) | (refine bodyPost_ret (v := .tuple #[]) ?_ rfl ⟨rfl, by rw [HE.out]; exact HP.out⟩)
        simp [results, Try.results93, go_sem]
end Go.Proofs.Yteniflajiklffaa.cos

namespace Go.Proofs.Yteniflajiklffaa.cos
open Go Go.RowKit Go.Proofs.Yteniflajiklffaa.base Go.Proofs.Yteniflajiklffaa.pairs Go.Proofs.Yteniflajiklffaa.ords Go.Proofs.Yteniflajiklffaa.lay Go.Proofs.Yteniflajiklffaa.wds
set_option linter.unusedVariables false
set_option linter.unusedSimpArgs false

theorem rise_len : ∀ {l : List Int} {a b : Int}, l.Pairwise (· < ·) → (∀ x ∈ l, a ≤ x ∧ x ≤ b) → (l.length : Int) ≤ max 0 (b + 1 - a) := fun h h2 => asc_len h h2
theorem RightCo.jobsLen {c : Co} (h : RightCo c) : c.2.2.2.1.length ≤ 999 := by
  have := rise_len (a := c.2.1 * 1000) (b := c.2.1 * 1000 + c.2.2.1 - 1) h.rise (fun x hx => by
    obtain ⟨j, hj, rfl⟩ := List.mem_map.1 hx
    exact ⟨(h.jobs j hj).lo, (h.jobs j hj).hi⟩)
  have := h.next
  rw [List.length_map] at *
  omega
theorem sumO_bound : ∀ (l : List Od), (∀ p ∈ l, odOk p = true) → sumO l ≤ 33 * l.length := by
  intro l
  unfold sumO
  induction l with
  | nil => intro _; simp
  | cons p l ih =>
    intro h
    have h1 := ih fun x hx => h x (List.mem_cons_of_mem _ hx)
    have h2 := (odOk_iff p).1 (h p List.mem_cons_self)
    have h3 : p.2.1.size ≤ 13 := by
      have := h2.2.2.1
      unfold keyOk at this
      simp only [Bool.and_eq_true, decide_eq_true_eq] at this
      omega
    simp only [List.map_cons, List.sum_cons, List.length_cons]
    unfold osz at *
    omega
theorem JobFine.size {n life next : Int} {log : List Ch} {j : Jb} (h : JobFine n life next log j) (hn : 1 ≤ n ∧ n ≤ 8) : jsz j ≤ 280 := by
  have h1 := (opsOk_iff _).1 h.ops
  have h2 := sumO_bound j.2.1 h1.1.1
  have h3 := (yes_len hn h.yes).1
  unfold jsz
  omega
theorem sumJ_bound : ∀ (l : List Jb) (m : Nat), (∀ j ∈ l, jsz j ≤ m) → sumJ l ≤ m * l.length := by
  intro l m
  unfold sumJ
  induction l with
  | nil => intro _; simp
  | cons j l ih =>
    intro h
    have h1 := ih fun x hx => h x (List.mem_cons_of_mem _ hx)
    have h2 := h j List.mem_cons_self
    simp only [List.map_cons, List.sum_cons, List.length_cons, Nat.mul_add]
    omega
theorem RightCo.size {c : Co} (h : RightCo c) : csz c ≤ 300000 := by
  have h1 := h.jobsLen
  have h2 := h.few
  have h3 := sumJ_bound c.2.2.2.1 280 (fun j hj => (h.jobs j hj).size h.n)
  have h4 : 280 * c.2.2.2.1.length ≤ 280 * 999 := Nat.mul_le_mul_left _ h1
  unfold csz
  omega
theorem RightCo.bound {c : Co} (h : RightCo c) : BoundCo c := bound_co (by have := h.size; omega)
theorem right_new {n : Int} (h : 1 ≤ n ∧ n ≤ 8) : RightCo (n, 1, 0, [], [], 0) :=
  ⟨h, ⟨(by decide : (1 : Int) ≤ 1), (by decide : (1 : Int) ≤ 900)⟩, ⟨(by decide : (0 : Int) ≤ 0), (by decide : (0 : Int) ≤ 999)⟩, Nat.zero_le _, ⟨(by decide : (0 : Int) ≤ 0), (by decide : (0 : Int) ≤ 0)⟩, fun x hx => absurd hx List.not_mem_nil, List.nodup_nil, fun x hx => absurd hx List.not_mem_nil, List.Pairwise.nil⟩
theorem right_sure {c : Co} (h : RightCo c) : RightCo (c.1, c.2.1, c.2.2.1, c.2.2.2.1, c.2.2.2.2.1, (c.2.2.2.2.1.length : Int)) :=
  ⟨h.n, h.life, h.next, h.few, ⟨by show (0 : Int) ≤ (c.2.2.2.2.1.length : Int); omega, Int.le_refl _⟩, h.range, h.nodup, h.jobs, h.rise⟩
theorem right_crash {c : Co} (h : RightCo c) (keep : Int) : RightCo (crashS c keep) := by
  unfold crashS
  split
  · exact h
  · rename_i h9
    have hl := h.life
    have hn := h.next
    have hk := leftC_le (ln := c.2.2.2.2.1.length) (sure := c.2.2.2.2.2) (keep := keep) h.sure
    refine ⟨h.n, ⟨by show (1 : Int) ≤ c.2.1 + 1; omega, by show c.2.1 + 1 ≤ (900 : Int); omega⟩, ⟨(by decide : (0 : Int) ≤ 0), (by decide : (0 : Int) ≤ 999)⟩, ?_, ?_, fun x hx => ?_, ?_, fun x hx => absurd hx List.not_mem_nil, List.Pairwise.nil⟩
    · have := h.few
      simp only [List.length_take]; omega
    · simp only [List.length_take]; omega
    · have := h.range x (List.mem_of_mem_take hx)
      show 1000 ≤ x.1 ∧ x.1 ≤ (c.2.1 + 1) * 1000 + 0 - 1
      omega
    · simp only [List.map_take]
      exact List.Nodup.sublist (List.take_sublist _ _) h.nodup
theorem right_begin {c : Co} {ops : List Od} (h : RightCo c) : RightCo (beginS c ops).1 := by
  unfold beginS
  split
  · rename_i hm; exact begun_right h hm
  · exact h
theorem begin_life {c : Co} {ops : List Od} : (beginS c ops).1.2.1 = c.2.1 := by unfold beginS; split <;> rfl
theorem vote_life {c : Co} {shard tx : Int} {yes : Bool} : (voteS c shard tx yes).2.1 = c.2.1 := by
  cases e : votes c shard tx with
  | none => rw [voteS_none e]
  | some k =>
    obtain ⟨hk, _⟩ := votes_some e
    rw [voteS_eq e hk]; rfl
theorem crash_life {c : Co} {keep : Int} : (crashS c keep).2.1 ≤ c.2.1 + 1 := by
  unfold crashS
  split
  · omega
  · exact Int.le_refl _
end Go.Proofs.Yteniflajiklffaa.cos

namespace Go.Proofs.Yteniflajiklffaa.cos
open Go Go.RowKit Go.Proofs.Yteniflajiklffaa.base Go.Proofs.Yteniflajiklffaa.pairs Go.Proofs.Yteniflajiklffaa.ords Go.Proofs.Yteniflajiklffaa.lay Go.Proofs.Yteniflajiklffaa.wds
set_option linter.unusedVariables false
set_option linter.unusedSimpArgs false

def beginR (c : Co) (ops : List Od) : Co × List Wd × Int := if coordOk c = true then beginS c ops else (c, [], 0)
def RetB (w : World) (r : Co × List Wd × Int) (e : Ending) (w' : World) : Prop := ∃ vs F g m cap q, e = .returned (.tuple #[.agg vs.toArray, .slice (some ⟨g, 0, none⟩) m cap, .int .i64 r.2.2]) ∧ coordR.own w' vs r.1 F ∧ OwnG 39 wordR w' (.slice (some ⟨g, 0, none⟩) m cap) r.2.1 q ∧ (∀ k ∈ F, w.heap.size ≤ k) ∧ (∀ k ∈ g :: blocksOf q, w.heap.size ≤ k ∧ k ∉ F) ∧ Below w.heap.size w w'
set_option maxRecDepth 100000 in
set_option maxHeartbeats 1000000 in
theorem spec_begin (ja : Option Addr) (jn jc : Nat) (la : Option Addr) (ln lc : Nat) (c : Co) (a : Option Addr) (len cap : Nat) (ops : List Od) (w : World) (h : SeeCo w ja jn jc la ln lc c) (hbd : BoundCo c) (hSo : SlO w a len ops) (hks : ∀ p ∈ ops, p.2.1.size ≤ 1099511627776) :
    Calls Try.prog 8 #[coV c.1 c.2.1 c.2.2.1 c.2.2.2.2.2 ja jn jc la ln lc, .slice a len cap] w (RetB w (beginR c ops)) := by
  have hwf := h.wf
  have hl8 := hbd.log
  obtain ⟨W, hW⟩ : ∃ W, (w.alloc (.cells #[.int .i64 c.1, .int .i64 c.2.1, .int .i64 c.2.2.1, .slice ja jn jc, .slice la ln lc, .int .i64 c.2.2.2.2.2] 27)).alloc (.cells #[.int .i64 0, .int .i64 0, .int .i64 0, .slice none 0 0, .slice none 0 0, .int .i64 0] 27) = W := ⟨_, rfl⟩
  have hB : Below w.heap.size w W := by rw [← hW]; exact ((Below.refl _ _).alloc (Nat.le_refl _) _).alloc (by simp) _
  have hA : BoxIn w.heap.size 27 [] [.int .i64 c.1, .int .i64 c.2.1, .int .i64 c.2.2.1, .slice ja jn jc, .slice la ln lc, .int .i64 c.2.2.2.2.2] [] W := by rw [← hW]; exact (boxIn_new w _ _).below below_make
  have hR : BoxIn (w.heap.size + 1) 27 [] [.int .i64 0, .int .i64 0, .int .i64 0, .slice none 0 0, .slice none 0 0, .int .i64 0] [] W := by
    rw [← hW]
    have := boxIn_new (w.alloc (.cells #[.int .i64 c.1, .int .i64 c.2.1, .int .i64 c.2.2.1, .slice ja jn jc, .slice la ln lc, .int .i64 c.2.2.2.2.2] 27)) [.int .i64 0, .int .i64 0, .int .i64 0, .slice none 0 0, .slice none 0 0, .int .i64 0] 27
    rwa [show (w.alloc (.cells #[.int .i64 c.1, .int .i64 c.2.1, .int .i64 c.2.2.1, .slice ja jn jc, .slice la ln lc, .int .i64 c.2.2.2.2.2] 27)).heap.size = w.heap.size + 1 by simp] at this
  have hRl := hR.lt
  have HOC : Hid (Calls Try.prog 33 #[coV c.1 c.2.1 c.2.2.1 c.2.2.2.2.2 ja jn jc la ln lc] W (RetR coordR W c)) := (spec_copy ja jn jc la ln lc c W (h.below hB) hbd.fits hbd.yes).mono fun e w' hp => copy_ret hwf hp
  have HCK := Hid.mk' (fun wx (hx : Below w.heap.size w wx) => spec_coordOk ja jn jc la ln lc c wx (h.below hx) hbd.fits)
  have HW := Hid.mk' hW
  obtain ⟨a0, a1, a2, a3, a4, a5⟩ := cells6 hA
  rw [← hW] at a0 a1 a2 a3 a4 a5
  clear hW h
  go_enter Try.func8, Try.ntmps8
  go_wp2_with fail
  rw [HW.out]
  refine HOC.out.mono ?_
  rintro e w1 ⟨vs, F, rfl, hO, hF, hb1⟩
  obtain ⟨xja, xjn, xjc, xla, xln, xlc, rfl⟩ := coord_shape hO
  have hB1 := hB.trans (hb1.mono hB.size)
  obtain ⟨V, hV⟩ : ∃ V, w1.alloc (.cells #[.int .i64 c.1, .int .i64 c.2.1, .int .i64 c.2.2.1, .slice xja xjn xjc, .slice xla xln xlc, .int .i64 c.2.2.2.2.2] 27) = V := ⟨_, rfl⟩
  have hbv : Below w1.heap.size w1 V := by rw [← hV]; exact below_make
  have hBV := hB1.trans (hbv.mono hB1.size)
  have hX := inR_new (T := 27) hO
  rw [hV] at hX
  have hRV := (hR.below hb1).below hbv
  have hw1 := hb1.size
  have HOK := Hid.mk' (HCK.out V hBV)
  have HV := Hid.mk' hV
  clear a0 a1 a2 a3 a4 a5 HOC HCK hO
  obtain ⟨a0, a1, a2, a3, a4, a5⟩ := cells6 ((hA.below hb1).below hbv)
  rw [← hV] at a0 a1 a2 a3 a4 a5
  clear hV
  cases hok : coordOk c
  · rw [hok] at HOK
    have HE : Hid (beginR c ops = (c, [], 0)) := by show _ = _; unfold beginR; rw [if_neg (by rw [hok]; decide)]
    clear hok
    go_wp2_with fail
    rw [HV.out]
    refine HOK.out.mono ?_
    rintro e w2 ⟨rfl, hb2⟩
    have hR2 := hRV.below hb2
    have hX2 := hX.below hb2
    have hB2 := hBV.trans (hb2.mono hBV.size)
    have hXlt := hX2.lt
    clear a0 a1 a2 a3 a4 a5
    obtain ⟨q0, q1, q2, q3, q4, q5⟩ := cells6 hX2.box
    have hbm : Below w2.heap.size w2 (w2.alloc (.cells #[] 39)) := below_make
    have hRa := hR2.below hbm
    have hXa := hX2.below hbm
    have hBa := hB2.trans (hbm.mono hB2.size)
    have hFl := coordR.ownLt hX2.own
    have hom := lay.ownG_made 39 wordR w2
    have hB2s := hB2.size
    obtain ⟨z0, z1, z2, z3, z4, z5⟩ := cells6 hRa
    have f0 := hRa.fz 0
    have f1 := hRa.fz 1
    have f2 := hRa.fz 2
    have f3 := hRa.fz 3
    have f4 := hRa.fz 4
    have f5 := hRa.fz 5
    have hS := hRa.whole [.int .i64 c.1, .int .i64 c.2.1, .int .i64 c.2.2.1, .slice xja xjn xjc, .slice xla xln xlc, .int .i64 c.2.2.2.2.2] rfl
    obtain ⟨y0, y1, y2, y3, y4, y5⟩ := cells6 hS.1
    have hO2 := coordR.ownGrown hXa.own hS.2 (fun b hb e => by have := hF b hb; cases e; omega)
    have hWk := hom.keep fun k hk => hS.2.block k (hom.at_ k hk) (fun e => by
      have h1 : k = w2.heap.size := by simpa [Value.ownBlock, blocksOf] using hk
      have h2 := Option.some.inj e
      omega)
    have hBz := hBa.grown hS.2 hBa.size (fun j e => by cases e; omega)
    have hFN : ∀ b ∈ F, w.heap.size ≤ b := fun b hb => by have := hF b hb; have := hB.size; omega
    have HRET : Hid (RetB w (beginR c ops) (.returned (.tuple #[.agg #[.int .i64 c.1, .int .i64 c.2.1, .int .i64 c.2.2.1, .slice xja xjn xjc, .slice xla xln xlc, .int .i64 c.2.2.2.2.2], .slice (some ⟨w2.heap.size, 0, none⟩) 0 0, .int .i64 0])) (putAll (w2.alloc (.cells #[] 39)) (w.heap.size + 1) 0 [.int .i64 c.1, .int .i64 c.2.1, .int .i64 c.2.2.1, .slice xja xjn xjc, .slice xla xln xlc, .int .i64 c.2.2.2.2.2])) := by
      show RetB _ _ _ _
      rw [HE.out]
      refine ⟨_, F, w2.heap.size, 0, 0, [], rfl, hO2, hWk, hFN, fun k hk => ?_, hBz⟩
      have e : k = w2.heap.size := by simpa [blocksOf] using hk
      exact ⟨by omega, fun hm => by have := hFl k hm; omega⟩
    simp only [putAll, Nat.zero_add, Nat.reduceAdd] at y0 y1 y2 y3 y4 y5 HRET
    have HY := Hid.mk' (And.intro y0 (And.intro y1 (And.intro y2 (And.intro y3 (And.intro y4 y5)))))
    clear hO2 hS hBz hFN hWk hom hXa hBa hRa HE y0 y1 y2 y3 y4 y5
    go_wp2_with fail
    obtain ⟨y0, y1, y2, y3, y4, y5⟩ := HY.out
    refine bodyPost_ret (v := .tuple #[.agg #[.int .i64 c.1, .int .i64 c.2.1, .int .i64 c.2.2.1, .slice xja xjn xjc, .slice xla xln xlc, .int .i64 c.2.2.2.2.2], .slice (some ⟨w2.heap.size, 0, none⟩) 0 0, .int .i64 0]) ?_ rfl HRET.out
    simp [results, Try.results8, go_sem, y0, y1, y2, y3, y4, y5]
  · rw [hok] at HOK
    have HE : Hid (beginR c ops = beginS c ops) := by show _ = _; unfold beginR; rw [if_pos hok]
    have hhd := coordOk_head hok
    have HCR := Hid.mk' (fun wx (hx : InR coordR 27 wx w1.heap.size [.int .i64 c.1, .int .i64 c.2.1, .int .i64 c.2.2.1, .slice xja xjn xjc, .slice xla xln xlc, .int .i64 c.2.2.2.2.2] c F) (hw : Below w.heap.size w wx) => spec_l11Begin w1.heap.size 27 [] [] xja xjn xjc xla xln xlc c F a len cap ops wx ⟨hx.box, hx.own, hx.out⟩ (fun w' hf => hSo.below (hw.trans (hf.bel hw.size (fun k hk => by
      have := hB1.size
      have := hB.size
      rcases List.mem_cons.1 hk with e | e
      · omega
      · have := hF k e; omega)))) hks hhd.2.1 hhd.2.2.1 hbd.jobs hbd.log)
    generalize beginS c ops = R at *
    obtain ⟨R, words, tx⟩ := R
    clear hok hhd
    go_wp2_with fail
    rw [HV.out]
    refine HOK.out.mono ?_
    rintro e w2 ⟨rfl, hb2⟩
    have hR2 := hRV.below hb2
    have hX2 := hX.below hb2
    have hB2 := hBV.trans (hb2.mono hBV.size)
    have HC2 := Hid.mk' (HCR.out w2 hX2 hB2)
    have hXlt := hX2.lt
    have hFl2 := coordR.ownLt hX2.own
    clear a0 a1 a2 a3 a4 a5 HCR
    go_wp2_with fail
    refine HC2.out.mono ?_
    rintro e w3 ⟨gw, mw, capw, qw, yja, yjn, yjc, yla, yln, ylc, F3, rfl, hW3, hqw, hI3, hf3, hfr3⟩
    have hR3 := hR2.frame hf3 (fun e => by
      rcases List.mem_cons.1 e with e | e
      · omega
      · have := hF _ e; omega)
    have hb1s := hB1.size
    have hB2s := hB2.size
    have hF3 : ∀ b ∈ F3, W.heap.size ≤ b := fun b hb => by
      have h2 := hb2.size
      have h3 := hbv.size
      rcases hfr3 b hb with e | e
      · exact hF b e
      · omega
    have hB3 : Below w.heap.size w w3 := hB2.trans (hf3.bel hB2.size fun b hb => by
      have := hB.size
      rcases List.mem_cons.1 hb with e | e
      · omega
      · have := hF b e; omega)
    clear HC2
    simp only [] at hI3 hW3
    obtain ⟨q0, q1, q2, q3, q4, q5⟩ := cells6 hI3.box
    obtain ⟨z0, z1, z2, z3, z4, z5⟩ := cells6 hR3
    have f0 := hR3.fz 0
    have f1 := hR3.fz 1
    have f2 := hR3.fz 2
    have f3 := hR3.fz 3
    have f4 := hR3.fz 4
    have f5 := hR3.fz 5
    have hS := hR3.whole [.int .i64 R.1, .int .i64 R.2.1, .int .i64 R.2.2.1, .slice yja yjn yjc, .slice yla yln ylc, .int .i64 R.2.2.2.2.2] rfl
    obtain ⟨y0, y1, y2, y3, y4, y5⟩ := cells6 hS.1
    simp only [putAll, Nat.zero_add, Nat.reduceAdd] at y0 y1 y2 y3 y4 y5
    have hO2 := coordR.ownGrown hI3.own hS.2 (fun b hb e => by have := hF3 b hb; cases e; omega)
    have hW4 := hW3.keep fun k hk => hS.2.block k (hW3.at_ k hk) (fun e => by
      have h1 := (hqw k (by simpa [Value.ownBlock] using hk)).1
      have h2 := Option.some.inj e
      have := hb2.size
      have := hbv.size
      omega)
    have hBz := hB3.grown hS.2 hB3.size (fun j e => by cases e; omega)
    have hFN : ∀ b ∈ F3, w.heap.size ≤ b := fun b hb => by have := hF3 b hb; have := hB.size; omega
    have HRET : Hid (RetB w (beginR c ops) (.returned (.tuple #[.agg #[.int .i64 R.1, .int .i64 R.2.1, .int .i64 R.2.2.1, .slice yja yjn yjc, .slice yla yln ylc, .int .i64 R.2.2.2.2.2], .slice (some ⟨gw, 0, none⟩) mw capw, .int .i64 tx])) (putAll w3 (w.heap.size + 1) 0 [.int .i64 R.1, .int .i64 R.2.1, .int .i64 R.2.2.1, .slice yja yjn yjc, .slice yla yln ylc, .int .i64 R.2.2.2.2.2])) := by
      show RetB _ _ _ _
      rw [HE.out]
      exact ⟨_, F3, gw, mw, capw, qw, rfl, hO2, hW4, hFN, fun k hk => ⟨by have := (hqw k hk).1; omega, (hqw k hk).2⟩, hBz⟩
    simp only [putAll, Nat.zero_add, Nat.reduceAdd] at HRET
    clear hO2 hS hBz hFN hW3 hW4 HE
    go_wp2_with fail
    refine bodyPost_ret (v := .tuple #[.agg #[.int .i64 R.1, .int .i64 R.2.1, .int .i64 R.2.2.1, .slice yja yjn yjc, .slice yla yln ylc, .int .i64 R.2.2.2.2.2], .slice (some ⟨gw, 0, none⟩) mw capw, .int .i64 tx]) ?_ rfl HRET.out
    simp [results, Try.results8, go_sem, y0, y1, y2, y3, y4, y5]
end Go.Proofs.Yteniflajiklffaa.cos
