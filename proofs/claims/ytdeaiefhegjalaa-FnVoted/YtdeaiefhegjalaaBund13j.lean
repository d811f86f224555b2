/- The specification's one who decides: orders begin. -/
import Derived.Test.YtdeaiefhegjalaaBund12bi
import Derived.Test.YtdeaiefhegjalaaBund13b
import Derived.Test.YtdeaiefhegjalaaBund13h
import Derived.Test.YtdeaiefhegjalaaBund13d
import Derived.Test.YtdeaiefhegjalaaBund12au
import Derived.Test.YtdeaiefhegjalaaBund12bb
import Derived.Test.YtdeaiefhegjalaaBund12an
namespace Go.Proofs.Ytdeaiefhegjalaa.cos
open Go Go.RowKit Go.Proofs.Ytdeaiefhegjalaa.base Go.Proofs.Ytdeaiefhegjalaa.pairs Go.Proofs.Ytdeaiefhegjalaa.ords Go.Proofs.Ytdeaiefhegjalaa.lay Go.Proofs.Ytdeaiefhegjalaa.wds
set_option linter.unusedVariables false
set_option linter.unusedSimpArgs false

/-- what became of one who decides in a block, and the words that are answered -/
def BegunPost (w : World) (X : Nat) (T : TypeId) (pre post : List Value) (F : List Nat) (r : Co × List Wd × Int) (e : Ending) (w' : World) : Prop :=
  ∃ g m cap q ja jn jc la ln lc F', e = .returned (.tuple #[.slice (some ⟨g, 0, none⟩) m cap, .int .i64 r.2.2]) ∧ OwnG 124 wordR w' (.slice (some ⟨g, 0, none⟩) m cap) r.2.1 q ∧ (∀ k ∈ g :: blocksOf q, w.heap.size ≤ k ∧ k ∉ F') ∧ InCo w' X T pre post ja jn jc la ln lc r.1 F' ∧ lay.Frame (X :: F) w w' ∧ Fresh w F F'
def beginS (c : Co) (ops : List Od) : Co × List Wd × Int := if mayBegin c ops = true then (begunC c ops, holdsW c.1 (nextTx c) ops [] (shardsOf c.1 ops), nextTx c) else (c, [], 0)
theorem InCo.below {w w' : World} {X : Nat} {T : TypeId} {pre post : List Value} {ja la : Option Addr} {jn jc ln lc : Nat} {c : Co} {F : List Nat} (h : InCo w X T pre post ja jn jc la ln lc c F) (hb : Below w.heap.size w w') : InCo w' X T pre post ja jn jc la ln lc c F := ⟨h.box.below hb, coordR.ownBelow h.own hb, h.out⟩
theorem InCo.framed {w w' : World} {X : Nat} {T : TypeId} {pre post : List Value} {ja la : Option Addr} {jn jc ln lc : Nat} {c : Co} {F G : List Nat} (h : InCo w X T pre post ja jn jc la ln lc c F) (hf : lay.Frame G w w') (hX : X ∉ G) (hF : ∀ k ∈ F, k ∉ G) : InCo w' X T pre post ja jn jc la ln lc c F := ⟨h.box.frame hf hX, coordR.ownFrame h.own hf hF, h.out⟩
theorem cells6p {X : Nat} {T : TypeId} {w : World} {pre post : List Value} {v0 v1 v2 v3 v4 v5 : Value} (h : BoxIn X T pre [v0, v1, v2, v3, v4, v5] post w) : w.cell? ⟨X, pre.length, none⟩ = some v0 ∧ w.cell? ⟨X, pre.length + 1, none⟩ = some v1 ∧ w.cell? ⟨X, pre.length + 2, none⟩ = some v2 ∧ w.cell? ⟨X, pre.length + 3, none⟩ = some v3 ∧ w.cell? ⟨X, pre.length + 4, none⟩ = some v4 ∧ w.cell? ⟨X, pre.length + 5, none⟩ = some v5 := ⟨h.cell 0 _ rfl, h.cell 1 _ rfl, h.cell 2 _ rfl, h.cell 3 _ rfl, h.cell 4 _ rfl, h.cell 5 _ rfl⟩
/-- nothing begins -/
theorem begun_no {w w1 : World} {X : Nat} {T : TypeId} {pre post : List Value} {ja la : Option Addr} {jn jc ln lc : Nat} {c : Co} {F : List Nat} (h : InCo w X T pre post ja jn jc la ln lc c F) (hb : Below w.heap.size w w1) : BegunPost w X T pre post F (c, [], 0) (.returned (.tuple #[.slice (some ⟨w1.heap.size, 0, none⟩) 0 0, .int .i64 0])) (w1.alloc (.cells #[] 124)) := by
  have hbm : Below w1.heap.size w1 (w1.alloc (.cells #[] 124)) := below_make
  have hb2 := hb.trans (hbm.mono hb.size)
  refine ⟨w1.heap.size, 0, 0, [], ja, jn, jc, la, ln, lc, F, rfl, lay.ownG_made _ _ _, fun k hk => ?_, h.below hb2, lay.Frame.of_below hb2, Fresh.refl _ _⟩
  have e : k = w1.heap.size := by simpa [blocksOf] using hk
  have := hb.size
  refine ⟨by omega, fun hm => ?_⟩
  have := coordR.ownLt h.own k hm
  omega
/-- orders begin -/
theorem begun_yes {w U w5 : World} {X : Nat} {T : TypeId} {pre post : List Value} {la : Option Addr} {m ln lc g' cap' gw mw capw : Nat} {c : Co} {F F1 : List Nat} {q4 ql qw : Parts} {words : List Wd} {tx : Int} (hX : BoxIn X T pre [.int .i64 c.1, .int .i64 c.2.1, .int .i64 c.2.2.1, .slice (some ⟨g', 0, none⟩) m cap', .slice la ln lc, .int .i64 c.2.2.2.2.2] post U) (hO : OwnG 37 jobR U (.slice (some ⟨g', 0, none⟩) m cap') c.2.2.2.1 q4) (hL : OwnG 33 chR U (.slice la ln lc) c.2.2.2.2.1 ql) (hF : lay.Frame (X :: F) w U) (hwf : WfCo c) (hq : ∀ k ∈ g' :: blocksOf q4, (k ∈ F1 ∨ w.heap.size ≤ k) ∧ k ≠ X) (hFe : F = F1 ++ (Value.slice la ln lc).ownBlock.toList) (hnd : F.Nodup) (hXF : X ∉ F) (hFlt : ∀ k ∈ F, k < w.heap.size) (hW : OwnG 124 wordR w5 (.slice (some ⟨gw, 0, none⟩) mw capw) words qw) (hqw : ∀ k ∈ gw :: blocksOf qw, U.heap.size ≤ k) (hb : Below U.heap.size U w5) :
    BegunPost w X T pre post F (c, words, tx) (.returned (.tuple #[.slice (some ⟨gw, 0, none⟩) mw capw, .int .i64 tx])) w5 := by
  have hlb : ∀ k ∈ (Value.slice la ln lc).ownBlock.toList, k ∈ F := fun k hk => by rw [hFe]; exact List.mem_append.2 (.inr hk)
  have hdis : ∀ k ∈ g' :: blocksOf q4, k ∉ (Value.slice la ln lc).ownBlock.toList := fun k hk h2 => by
    rcases (hq k hk).1 with e | e
    · rw [hFe] at hnd
      exact (nodup_parts hnd).2.2 k e h2
    · have := hFlt k (hlb k h2); omega
  have hOn : (g' :: blocksOf q4).Nodup := by simpa [Value.ownBlock] using hO.nodup
  have hll : logR.own U [.slice la ln lc] c.2.2.2.2.1 (Value.slice la ln lc).ownBlock.toList := logs_own.2 ⟨⟨ql, hL⟩, rfl⟩
  have hown : coordR.own U [.int .i64 c.1, .int .i64 c.2.1, .int .i64 c.2.2.1, .slice (some ⟨g', 0, none⟩) m cap', .slice la ln lc, .int .i64 c.2.2.2.2.2] c ((g' :: blocksOf q4) ++ (Value.slice la ln lc).ownBlock.toList) :=
    coord_own.2 ⟨_, _, g' :: blocksOf q4, _, rfl, hwf, ⟨_, q4, rfl, by simp [Value.ownBlock], hO⟩, hll, rfl, nodup_mk hOn (logR.ownNodup hll) hdis⟩
  have hlt := coordR.ownLt hown
  refine ⟨gw, mw, capw, qw, _, _, _, la, ln, lc, _, rfl, hW, fun k hk => ⟨by have := hqw k hk; have := hF.size; omega, fun hm => ?_⟩, ⟨hX.below hb, coordR.ownBelow hown hb, fun e => ?_⟩, hF.below hb, fun k hk => ?_⟩
  · have := hlt k hm
    have := hqw k hk
    omega
  · rcases List.mem_append.1 e with e | e
    · exact (hq X e).2 rfl
    · exact hXF (hlb X e)
  · rcases List.mem_append.1 hk with e | e
    · rcases (hq k e).1 with e2 | e2
      · exact .inl (by rw [hFe]; exact List.mem_append.2 (.inl e2))
      · exact .inr e2
    · exact .inl (hlb k e)
set_option maxRecDepth 100000 in
set_option maxHeartbeats 4000000 in
theorem spec_l11Begin (X : Nat) (T : TypeId) (pre post : List Value) (ja : Option Addr) (jn jc : Nat) (la : Option Addr) (ln lc : Nat) (c : Co) (F : List Nat) (a : Option Addr) (len cap : Nat) (ops : List Od) (w : World) (h : InCo w X T pre post ja jn jc la ln lc c F) (hst : ∀ w', lay.Frame (X :: F) w w' → SlO w' a len ops) (hks : ∀ p ∈ ops, p.2.1.size ≤ 1099511627776) (hlife : 1 ≤ c.2.1 ∧ c.2.1 ≤ 900) (hnext : 0 ≤ c.2.2.1 ∧ c.2.2.1 ≤ 999) (hj8 : c.2.2.2.1.length ≤ 1048576) (hl8 : c.2.2.2.2.1.length ≤ 1048576) :
    Calls Try.prog 48 #[.pointer (some ⟨X, pre.length, none⟩), .slice a len cap] w (BegunPost w X T pre post F (beginS c ops)) := by
  have H0 := Hid.mk' h
  obtain ⟨hbx, hown, hXF⟩ := h
  have hXl := hbx.lt
  obtain ⟨n, life, next, jobs, log, sure⟩ := c
  simp only [] at *
  have hSo := hst w (lay.Frame.refl _ _)
  have HOK := Hid.mk' (spec_opsOkA a len cap ops w hSo hks)
  obtain ⟨vx, vy, F1, F2, e, hwf, hj, hl, hFe, hnd⟩ := coord_own.1 hown
  simp only [List.cons.injEq, and_true, true_and] at e
  obtain ⟨rfl, rfl⟩ := e
  obtain ⟨⟨ql, hL⟩, rfl⟩ := logs_own.1 hl
  have hlnl : ln = log.length := hL.sl.1.symm
  have HBX := Hid.mk' hbx
  cases hok : opsOk ops with
  | false =>
    have HE : Hid (beginS (n, life, next, jobs, log, sure) ops = ((n, life, next, jobs, log, sure), [], 0)) := by show _ = _; unfold beginS mayBegin; rw [hok]; rfl
    rw [hok] at HOK
    clear hok hbx hown hj hl hL hlnl hwf hnd hFe hSo hlife hnext
    rw [HE.out]
    go_enter Try.func48, Try.ntmps48
    go_wp2_with fail
    refine HOK.out.mono ?_
    rintro e w1 ⟨rfl, hb1⟩
    have HP := Hid.mk' (begun_no H0.out hb1)
    clear HOK HBX H0 hst
    go_wp2_with fail
    go_returns
    exact HP.out
  | true =>
    rw [hok] at HOK
    by_cases h9 : next = 999
    · have HE : Hid (beginS (n, life, next, jobs, log, sure) ops = ((n, life, next, jobs, log, sure), [], 0)) := by show _ = _; unfold beginS mayBegin; rw [hok]; simp [h9]
      have hq9 : (next == 999) = true := beq_iff_eq.2 h9
      clear hok hbx hown hj hl hL hlnl hwf hnd hFe hSo hlife hnext h9
      rw [HE.out]
      go_enter Try.func48, Try.ntmps48
      go_wp2_with fail
      refine HOK.out.mono ?_
      rintro e w1 ⟨rfl, hb1⟩
      have HP := Hid.mk' (begun_no H0.out hb1)
      have x2 := (HBX.out.below hb1).cell 2 _ rfl
      clear HOK HBX H0 hst HE
      generalize next = nx at *
      go_wp2_with fail
      go_returns
      exact HP.out
    have hq9 : (next == 999) = false := beq_eq_false_iff_ne.2 h9
    by_cases hfull : 1000 ≤ ln
    · have HE : Hid (beginS (n, life, next, jobs, log, sure) ops = ((n, life, next, jobs, log, sure), [], 0)) := by show _ = _; unfold beginS mayBegin; rw [hok]; simp; omega
      have hfi : ¬ (ln : Int) < 1000 := by omega
      have hfi2 : (1000 : Int) ≤ (ln : Int) := by omega
      clear hok hbx hown hj hl hL hlnl hwf hnd hFe hSo hlife hnext h9
      rw [HE.out]
      go_enter Try.func48, Try.ntmps48
      go_wp2_with fail
      refine HOK.out.mono ?_
      rintro e w1 ⟨rfl, hb1⟩
      have HP := Hid.mk' (begun_no H0.out hb1)
      have x2 := (HBX.out.below hb1).cell 2 _ rfl
      have x4 := (HBX.out.below hb1).cell 4 _ rfl
      clear HOK HBX H0 hst HE
      generalize next = nx at *
      go_wp2_with fail
      go_returns
      exact HP.out
    have hfi : (ln : Int) < 1000 := by omega
    have hfi2 : ¬ (1000 : Int) ≤ (ln : Int) := by omega
    have HE : Hid (beginS (n, life, next, jobs, log, sure) ops = ((n, life, next + 1, jobs ++ [(life * 1000 + next, ops, 1, [])], log, sure), holdsW n (life * 1000 + next) ops [] (shardsOf n ops), life * 1000 + next)) := by
      show _ = _
      unfold beginS mayBegin
      rw [hok, if_pos (by simp; omega)]
      rfl
    rw [HE.out]
    have hol8 : len ≤ 8 := by have := hSo.1; have := (opsOk_len hok).2; omega
    obtain ⟨vj, qj, e, hF1, hJ⟩ := hj
    simp only [List.cons.injEq, and_true] at e
    subst e
    have hjl : jn = jobs.length := hJ.sl.1.symm
    have hnw := hwf.n
    have w1 : IntKind.i64.wrap (life * 1000) = life * 1000 := by rw [IntKind.wrap_i64]; omega
    have w2 : IntKind.i64.wrap (life * 1000 + next) = life * 1000 + next := by rw [IntKind.wrap_i64]; omega
    have w3 : IntKind.i64.wrap (next + 1) = next + 1 := by rw [IntKind.wrap_i64]; omega
    have htw : (Lit.int .i64 (life * 1000 + next)).wf = true := WalkArith.wf_i64 (by omega)
    have hxw : (Lit.int .i64 (next + 1)).wf = true := WalkArith.wf_i64 (by omega)
    have HWF := Hid.mk' hwf
    have HST := Hid.mk' hst
    have HJ := Hid.mk' hJ
    have HL := Hid.mk' hL
    have HND := Hid.mk' hnd
    have hFlt := coordR.ownLt hown
    have HJL := Hid.mk' hjl
    clear hok hbx hown hl hL hlnl hwf hnd hSo hlife hnext h9 hfull hst hJ H0 HE hjl
    go_enter Try.func48, Try.ntmps48
    go_wp2_with fail
    refine HOK.out.mono ?_
    rintro e W1 ⟨rfl, hb1⟩
    have x2 := (HBX.out.below hb1).cell 2 _ rfl
    have x4 := (HBX.out.below hb1).cell 4 _ rfl
    clear HOK
    go_wp2_with fail
    clear x2 x4
    have hb1s := hb1.size
    have hdW : Below W1.heap.size W1 W1.drew := (Below.refl _ _).drew
    have HX1 := Hid.mk' (HBX.out.below hb1)
    have HCP := Hid.mk' (fun wx (hx : Below w.heap.size w wx) => spec_copyOps a len cap ops wx (HST.out wx (lay.Frame.of_below hx)) (by omega))
    refine last.wp_region_later (S := fun w' => Below W1.heap.size W1 w') 14 (by kernel_rfl) hdW (fun hHeld0 => ?_)
    generalize hD : W1.drew = D at *
    clear hD
    refine last.wpAnyL_take (i := 0) (v := (.pointer (some ⟨X, pre.length, none⟩))) rfl rfl (by kernel_rfl) (by kernel_rfl) (by kernel_rfl) (by kernel_rfl) (fun _ _ _ h => h) (Or.inl ⟨by rfl, ?_⟩) (by assumption) ?_
    · intro wq hSq; go_simp
    try simp only [Act.put, List.setIfInBounds_toArray, List.set_cons_zero, List.set_cons_succ]
    refine last.wpAnyL_take (i := 1) (v := (.pointer (some ⟨X, pre.length, none⟩))) rfl rfl (by kernel_rfl) (by kernel_rfl) (by kernel_rfl) (by kernel_rfl) (fun _ _ _ h => h) (Or.inl ⟨by rfl, ?_⟩) (by assumption) ?_
    · intro wq hSq; go_simp
    try simp only [Act.put, List.setIfInBounds_toArray, List.set_cons_zero, List.set_cons_succ]
    refine last.wpAnyL_take (i := 2) (v := (.pointer (some ⟨X, pre.length + 1, none⟩))) rfl rfl (by kernel_rfl) (by kernel_rfl) (by kernel_rfl) (by kernel_rfl) (fun _ _ _ h => h) (Or.inl ⟨by rfl, ?_⟩) (by assumption) ?_
    · intro wq hSq; go_simp
    try simp only [Act.put, List.setIfInBounds_toArray, List.set_cons_zero, List.set_cons_succ]
    refine last.wpAnyL_take (i := 3) (v := (.int .i64 life)) rfl rfl (by kernel_rfl) (by kernel_rfl) (by kernel_rfl) (by kernel_rfl) (fun _ _ _ h => h) (Or.inl ⟨by rfl, ?_⟩) (by assumption) ?_
    · intro wq hSq; have q := (HX1.out.below hSq).cell 1 _ rfl; go_simp
    try simp only [Act.put, List.setIfInBounds_toArray, List.set_cons_zero, List.set_cons_succ]
    refine last.wpAnyL_take (i := 4) (v := (.int .i64 (life * 1000))) rfl rfl (by kernel_rfl) (by kernel_rfl) (by kernel_rfl) (by kernel_rfl) (fun _ _ _ h => h) (Or.inl ⟨by rfl, ?_⟩) (by assumption) ?_
    · intro wq hSq; go_simp
    try simp only [Act.put, List.setIfInBounds_toArray, List.set_cons_zero, List.set_cons_succ]
    refine last.wpAnyL_take (i := 5) (v := (.pointer (some ⟨X, pre.length, none⟩))) rfl rfl (by kernel_rfl) (by kernel_rfl) (by kernel_rfl) (by kernel_rfl) (fun _ _ _ h => h) (Or.inl ⟨by rfl, ?_⟩) (by assumption) ?_
    · intro wq hSq; go_simp
    try simp only [Act.put, List.setIfInBounds_toArray, List.set_cons_zero, List.set_cons_succ]
    refine last.wpAnyL_take (i := 6) (v := (.pointer (some ⟨X, pre.length, none⟩))) rfl rfl (by kernel_rfl) (by kernel_rfl) (by kernel_rfl) (by kernel_rfl) (fun _ _ _ h => h) (Or.inl ⟨by rfl, ?_⟩) (by assumption) ?_
    · intro wq hSq; go_simp
    try simp only [Act.put, List.setIfInBounds_toArray, List.set_cons_zero, List.set_cons_succ]
    refine last.wpAnyL_take (i := 7) (v := (.pointer (some ⟨X, pre.length + 2, none⟩))) rfl rfl (by kernel_rfl) (by kernel_rfl) (by kernel_rfl) (by kernel_rfl) (fun _ _ _ h => h) (Or.inl ⟨by rfl, ?_⟩) (by assumption) ?_
    · intro wq hSq; go_simp
    try simp only [Act.put, List.setIfInBounds_toArray, List.set_cons_zero, List.set_cons_succ]
    refine last.wpAnyL_take (i := 8) (v := (.int .i64 next)) rfl rfl (by kernel_rfl) (by kernel_rfl) (by kernel_rfl) (by kernel_rfl) (fun _ _ _ h => h) (Or.inl ⟨by rfl, ?_⟩) (by assumption) ?_
    · intro wq hSq; have q := (HX1.out.below hSq).cell 2 _ rfl; go_simp
    try simp only [Act.put, List.setIfInBounds_toArray, List.set_cons_zero, List.set_cons_succ]
    refine last.wpAnyL_take (i := 9) (v := (.int .i64 (life * 1000 + next))) rfl rfl (by kernel_rfl) (by kernel_rfl) (by kernel_rfl) (by kernel_rfl) (fun _ _ _ h => h) (Or.inl ⟨by rfl, ?_⟩) (by assumption) ?_
    · intro wq hSq; go_simp
    try simp only [Act.put, List.setIfInBounds_toArray, List.set_cons_zero, List.set_cons_succ]
    refine last.wpAnyL_take (i := 10) (v := (.slice a len cap)) rfl rfl (by kernel_rfl) (by kernel_rfl) (by kernel_rfl) (by kernel_rfl) (fun _ _ _ h => h) (Or.inl ⟨by rfl, ?_⟩) (by assumption) ?_
    · intro wq hSq; go_simp
    try simp only [Act.put, List.setIfInBounds_toArray, List.set_cons_zero, List.set_cons_succ]
    refine last.wpAnyL_two (i := 11) (j := 13) (o := { dst := some 37, op := Op.call { callee := Callee.value (Operand.func 35), args := #[Operand.tmp 36], argTypes := #[34] }, type := 34, pos := "l11_coord.go:96", after := #[{ on := 10, ground := Ground.data }], guard := none }) (o' := { dst := some 6, op := Op.alloc 37, type := 0, pos := "l11_coord.go:96", after := #[], guard := none }) (by kernel_rfl) rfl rfl (fun K hK => ?wayA) (fun K hK => ?wayB)
    case' wayA =>
      refine stepg.call1 rfl 35 (.tmp 36) _ rfl (fun _ _ => rfl) (.slice a len cap) (by kernel_rfl) _ (HCP.out _ (hb1.trans (hdW.mono hb1.size))) ?_
      rintro e wB ⟨g1, cp1, rfl, hO1, hbc⟩
      refine ⟨_, rfl, ?_⟩
      have hb_wB := hdW.trans (hbc.mono hdW.size)
      have hg1l := hO1.lt
      have hbcs := hbc.size
      have hbs := hdW.size
      refine hK.out _ _ ?_ (fun hHeld => ?_)
      · exact hb_wB
      clear hK K hHeld0
      have hHeld0 := hHeld
      clear hHeld
      try simp only [Act.put, List.setIfInBounds_toArray, List.set_cons_zero, List.set_cons_succ]
      refine last.wpAnyL_take (i := 12) (v := (.agg #[.int .i64 (life * 1000 + next), .slice (some ⟨g1, 0, none⟩) len cp1, .int .i64 1, .slice none 0 0])) rfl rfl (by kernel_rfl) (by kernel_rfl) (by kernel_rfl) (by kernel_rfl) (fun _ _ _ h => h) (Or.inl ⟨by rfl, ?_⟩) (by assumption) ?_
      · intro wq hSq; go_simp
      try simp only [Act.put, List.setIfInBounds_toArray, List.set_cons_zero, List.set_cons_succ]
      refine last.wpAnyL_one (i := 13) (o := { dst := some 6, op := Op.alloc 37, type := 0, pos := "l11_coord.go:96", after := #[], guard := none }) (by kernel_rfl) rfl (fun K hK => ?_)
      go_simp
      obtain ⟨wZ, hw_wZ⟩ : ∃ V, wB.alloc (.cells #[.int .i64 0, .slice none 0 0, .int .i64 0, .slice none 0 0] 37) = V := ⟨_, rfl⟩
      have hba : Below wB.heap.size wB wZ := by rw [← hw_wZ]; exact below_make
      have hJb : BoxIn wB.heap.size 37 [] [.int .i64 0, .slice none 0 0, .int .i64 0, .slice none 0 0] [] wZ := by rw [← hw_wZ]; exact boxIn_new _ _ _
      have hb_wZ := hb_wB.trans (hba.mono hb_wB.size)
      have hJl := hJb.lt
      have hbas := hba.size
      have hbs0 := hb_wB.size
      rw [hw_wZ]
      refine hK.out _ _ ?_ (fun hHeld => ?_)
      · exact hb_wZ
      clear hK K hHeld0
      have hHeld0 := hHeld
      clear hHeld
      try simp only [Act.put, List.setIfInBounds_toArray, List.set_cons_zero, List.set_cons_succ]
      clear hw_wZ
      replace hO1 := hO1.below hba
      generalize hJJ : wB.heap.size = J at *
      have hne : g1 ≠ J := by omega
      have hJ1 : W1.heap.size ≤ J := by omega
      have hg11 : W1.heap.size ≤ g1 := by omega
      have hO1z := hO1.mono (base' := 0) (Nat.zero_le _)
      clear hO1 hg1l hbcs hbs hbas hbs0 hba hbc hb_wB
    case' wayB =>
      go_simp
      obtain ⟨wB, hw_wB⟩ : ∃ V, D.alloc (.cells #[.int .i64 0, .slice none 0 0, .int .i64 0, .slice none 0 0] 37) = V := ⟨_, rfl⟩
      have hba : Below D.heap.size D wB := by rw [← hw_wB]; exact below_make
      have hJb : BoxIn D.heap.size 37 [] [.int .i64 0, .slice none 0 0, .int .i64 0, .slice none 0 0] [] wB := by rw [← hw_wB]; exact boxIn_new _ _ _
      have hb_wB := hdW.trans (hba.mono hdW.size)
      have hJl := hJb.lt
      have hbas := hba.size
      have hbs0 := hdW.size
      rw [hw_wB]
      refine hK.out _ _ ?_ (fun hHeld => ?_)
      · exact hb_wB
      clear hK K hHeld0
      have hHeld0 := hHeld
      clear hHeld
      try simp only [Act.put, List.setIfInBounds_toArray, List.set_cons_zero, List.set_cons_succ]
      clear hw_wB
      refine last.wpAnyL_one (i := 11) (o := { dst := some 37, op := Op.call { callee := Callee.value (Operand.func 35), args := #[Operand.tmp 36], argTypes := #[34] }, type := 34, pos := "l11_coord.go:96", after := #[{ on := 10, ground := Ground.data }], guard := none }) (by kernel_rfl) rfl (fun K hK => ?_)
      refine stepg.call1 rfl 35 (.tmp 36) _ rfl (fun _ _ => rfl) (.slice a len cap) (by kernel_rfl) _ (HCP.out _ (hb1.trans (hb_wB.mono hb1.size))) ?_
      rintro e wZ ⟨g1, cp1, rfl, hO1, hbc⟩
      refine ⟨_, rfl, ?_⟩
      have hb_wZ := hb_wB.trans (hbc.mono hb_wB.size)
      have hg1l := hO1.lt
      have hbcs := hbc.size
      have hbs := hb_wB.size
      refine hK.out _ _ ?_ (fun hHeld => ?_)
      · exact hb_wZ
      clear hK K hHeld0
      have hHeld0 := hHeld
      clear hHeld
      try simp only [Act.put, List.setIfInBounds_toArray, List.set_cons_zero, List.set_cons_succ]
      refine last.wpAnyL_take (i := 12) (v := (.agg #[.int .i64 (life * 1000 + next), .slice (some ⟨g1, 0, none⟩) len cp1, .int .i64 1, .slice none 0 0])) rfl rfl (by kernel_rfl) (by kernel_rfl) (by kernel_rfl) (by kernel_rfl) (fun _ _ _ h => h) (Or.inl ⟨by rfl, ?_⟩) (by assumption) ?_
      · intro wq hSq; go_simp
      try simp only [Act.put, List.setIfInBounds_toArray, List.set_cons_zero, List.set_cons_succ]
      replace hJb := hJb.below hbc
      generalize hJJ : D.heap.size = J at *
      have hne : g1 ≠ J := by omega
      have hJ1 : W1.heap.size ≤ J := by omega
      have hg11 : W1.heap.size ≤ g1 := by omega
      have hO1z := hO1.mono (base' := 0) (Nat.zero_le _)
      clear hO1 hg1l hbcs hbs hbas hbs0 hba hbc hb_wB
    all_goals
      have hJl := hJb.lt
      have hg1l := hO1z.lt
      obtain ⟨z0, z1, z2, z3⟩ := cells4 hJb
      have f0 := hJb.fz 0
      have f1 := hJb.fz 1
      have f2 := hJb.fz 2
      have f3 := hJb.fz 3
      have hS := hJb.whole [.int .i64 (life * 1000 + next), .slice (some ⟨g1, 0, none⟩) len cp1, .int .i64 1, .slice none 0 0] rfl
      obtain ⟨U, hU⟩ : ∃ U, putAll wZ J 0 [.int .i64 (life * 1000 + next), .slice (some ⟨g1, 0, none⟩) len cp1, .int .i64 1, .slice none 0 0] = U := ⟨_, rfl⟩
      rw [hU] at hS
      simp only [putAll, Nat.zero_add, Nat.reduceAdd] at hU
      have HU := Hid.mk' hU
      clear hU
      refine last.wpAnyL_last (o := { dst := none, op := Op.store 37 (Operand.tmp 6) (Operand.tmp 38), type := 0, pos := "l11_coord.go:96", after := #[{ on := 13, ground := Ground.data }, { on := 12, ground := Ground.data }, { on := 11, ground := Ground.chain }, { on := 0, ground := Ground.phase }, { on := 1, ground := Ground.phase }, { on := 2, ground := Ground.phase }, { on := 3, ground := Ground.phase }, { on := 4, ground := Ground.phase }, { on := 5, ground := Ground.phase }, { on := 6, ground := Ground.phase }, { on := 7, ground := Ground.phase }, { on := 8, ground := Ground.phase }, { on := 9, ground := Ground.phase }, { on := 10, ground := Ground.phase }, { on := 11, ground := Ground.phase }, { on := 12, ground := Ground.phase }, { on := 13, ground := Ground.phase }], guard := none }) (by kernel_rfl) rfl (by kernel_rfl) (fun K hK => ?_)
      go_simp
      refine hK.out _ _ ?_
      clear hK K
      rw [HU.out]
      have hbU : Below W1.heap.size W1 U := hb_wZ.grown hS.2 hb_wZ.size (fun k e => by cases e; omega)
      have hJU := hS.1
      have hOU := hO1z.grown hS.2 (by simp; omega)
      have hg1U : g1 < U.heap.size := Nat.lt_of_lt_of_le hg1l.2 hS.2.size
      have hXU := HX1.out.below hbU
      clear z0 z1 z2 z3 f0 f1 f2 f3 hS HU hb_wZ hO1z hJb hJl hHeld0 hJJ
      have hXJ : X ≠ J := by omega
      have x2 := hXU.cell 2 _ rfl
      have f2 := hXU.fz (pre.length + 2)
      have hS2 := hXU.set 2 (by simp) (.int .i64 (next + 1))
      obtain ⟨U2, hU2⟩ : ∃ U2, U.setCell ⟨X, pre.length + 2, none⟩ (.int .i64 (next + 1)) = U2 := ⟨_, rfl⟩
      rw [hU2] at hS2
      have HU2 := Hid.mk' hU2
      clear hU2
      go_wp2_with fail
      rw [HU2.out]
      have hX2 : BoxIn X T pre [.int .i64 n, .int .i64 life, .int .i64 (next + 1), .slice ja jn jc, .slice la ln lc, .int .i64 sure] post U2 := hS2.1
      have hJ2 := hJU.grown hS2.2 (by simp; omega)
      have hO2 := hOU.grown hS2.2 (by simp; omega)
      have hF2 : lay.Frame [X] w U2 := (lay.Frame.of_below (hb1.trans (hbU.mono hb1.size))).grown hS2.2 (fun k e => by cases e; exact .inl (by simp))
      have hs2 := hS2.2.size
      clear x2 f2 HU2 hS2 hXU hJU hOU
      have hJs := HJ.out.keep fun k hk => hF2.block k (HJ.out.at_ k hk) (fun e => by
        rw [List.mem_singleton] at e
        subst e
        exact hXF (by rw [hFe, hF1]; exact List.mem_append.2 (.inl hk)))
      have hLs := HL.out.keep fun k hk => hF2.block k (HL.out.at_ k hk) (fun e => by
        rw [List.mem_singleton] at e
        subst e
        rw [(flat_ch.parts HL.out).2.2.1, List.append_nil] at hk
        exact hXF (by rw [hFe]; exact List.mem_append.2 (.inr hk)))
      have hdU : Below U2.heap.size U2 U2.drew := (Below.refl _ _).drew
      have hw1s : w.heap.size ≤ W1.heap.size := hb1s
      have hU1s : W1.heap.size ≤ U2.heap.size := Nat.le_trans hbU.size hs2
      have HX2 := Hid.mk' hX2
      have HJ2 := Hid.mk' hJ2
      refine last.wp_region_later (S := fun w' => BoxIn X T pre [.int .i64 n, .int .i64 life, .int .i64 (next + 1), .slice ja jn jc, .slice la ln lc, .int .i64 sure] post w' ∧ BoxIn J 37 [] [.int .i64 (life * 1000 + next), .slice (some ⟨g1, 0, none⟩) len cp1, .int .i64 1, .slice none 0 0] [] w') 10 (by kernel_rfl) ⟨hX2.below hdU, hJ2.below hdU⟩ (fun hHeld0 => ?_)
      have hJsD := hJs.below hdU
      have hLsD := hLs.below hdU
      have hO2D := hO2.below hdU
      have hF2D := hF2.below hdU
      have hX2D := hX2.below hdU
      have hJ2D := hJ2.below hdU
      have hds := hdU.size
      generalize hD2 : U2.drew = D2 at *
      clear hD2 hJs hLs hO2 hF2 hX2 hJ2
      refine last.wpAnyL_take (i := 0) (v := (.pointer (some ⟨X, pre.length, none⟩))) rfl rfl (by kernel_rfl) (by kernel_rfl) (by kernel_rfl) (by kernel_rfl) (fun _ _ _ h => h) (Or.inl ⟨by rfl, ?_⟩) (by assumption) ?_
      · intro wq hSq; go_simp
      try simp only [Act.put, List.setIfInBounds_toArray, List.set_cons_zero, List.set_cons_succ]
      refine last.wpAnyL_take (i := 1) (v := (.pointer (some ⟨X, pre.length, none⟩))) rfl rfl (by kernel_rfl) (by kernel_rfl) (by kernel_rfl) (by kernel_rfl) (fun _ _ _ h => h) (Or.inl ⟨by rfl, ?_⟩) (by assumption) ?_
      · intro wq hSq; go_simp
      try simp only [Act.put, List.setIfInBounds_toArray, List.set_cons_zero, List.set_cons_succ]
      refine last.wpAnyL_take (i := 2) (v := (.pointer (some ⟨X, pre.length, none⟩))) rfl rfl (by kernel_rfl) (by kernel_rfl) (by kernel_rfl) (by kernel_rfl) (fun _ _ _ h => h) (Or.inl ⟨by rfl, ?_⟩) (by assumption) ?_
      · intro wq hSq; go_simp
      try simp only [Act.put, List.setIfInBounds_toArray, List.set_cons_zero, List.set_cons_succ]
      refine last.wpAnyL_take (i := 3) (v := (.pointer (some ⟨X, pre.length + 3, none⟩))) rfl rfl (by kernel_rfl) (by kernel_rfl) (by kernel_rfl) (by kernel_rfl) (fun _ _ _ h => h) (Or.inl ⟨by rfl, ?_⟩) (by assumption) ?_
      · intro wq hSq; go_simp
      try simp only [Act.put, List.setIfInBounds_toArray, List.set_cons_zero, List.set_cons_succ]
      refine last.wpAnyL_take (i := 4) (v := (.slice ja jn jc)) rfl rfl (by kernel_rfl) (by kernel_rfl) (by kernel_rfl) (by kernel_rfl) (fun _ _ _ h => h) (Or.inl ⟨by rfl, ?_⟩) (by assumption) ?_
      · intro wq hSq; have q := hSq.1.cell 3 _ rfl; go_simp
      try simp only [Act.put, List.setIfInBounds_toArray, List.set_cons_zero, List.set_cons_succ]
      refine last.wpAnyL_take (i := 5) (v := (.agg #[.int .i64 (life * 1000 + next), .slice (some ⟨g1, 0, none⟩) len cp1, .int .i64 1, .slice none 0 0])) rfl rfl (by kernel_rfl) (by kernel_rfl) (by kernel_rfl) (by kernel_rfl) (fun _ _ _ h => h) (Or.inl ⟨by rfl, ?_⟩) (by assumption) ?_
      · intro wq hSq; obtain ⟨q0, q1, q2, q3⟩ := cells4 hSq.2; go_simp
      try simp only [Act.put, List.setIfInBounds_toArray, List.set_cons_zero, List.set_cons_succ]
      refine last.wpAnyL_one (i := 6) (o := { dst := some 53, op := Op.buildSlice 24 1 #[(0, Operand.tmp 52)], type := 24, pos := "l11_coord.go:98", after := #[{ on := 5, ground := Ground.data }], guard := none }) (by kernel_rfl) rfl (fun K hK => ?_)
      go_simp
      obtain ⟨V, hV⟩ : ∃ V, D2.alloc (.cells #[.int .i64 (life * 1000 + next), .slice (some ⟨g1, 0, none⟩) len cp1, .int .i64 1, .slice none 0 0] 37) = V := ⟨_, rfl⟩
      have hbv : Below D2.heap.size D2 V := by rw [← hV]; exact below_make
      have hNb : BoxIn D2.heap.size 37 [] [.int .i64 (life * 1000 + next), .slice (some ⟨g1, 0, none⟩) len cp1, .int .i64 1, .slice none 0 0] [] V := by rw [← hV]; exact boxIn_new _ _ _
      rw [hV]
      refine hK.out _ _ ?_ (fun hHeld => ?_)
      · exact ⟨hX2D.below hbv, hJ2D.below hbv⟩
      clear hK K hHeld0
      have hHeld0 := hHeld
      clear hHeld
      try simp only [Act.put, List.setIfInBounds_toArray, List.set_cons_zero, List.set_cons_succ]
      have hO3 := hO2D.below hbv
      have hxj : jobR.own V [.int .i64 (life * 1000 + next), .slice (some ⟨g1, 0, none⟩) len cp1, .int .i64 1, .slice none 0 0] (life * 1000 + next, ops, 1, []) ([g1] ++ []) := job_own.2 ⟨_, _, rfl, htw, (by decide : (Lit.int .i64 1).wf = true), (ownV_of hO3).mono (Nat.zero_le _), ⟨fun _ h => absurd h List.not_mem_nil, World.ownsRow_nil _ _ _ _⟩, rfl, by simp⟩
      have hFl : ∀ k ∈ F, k < w.heap.size := hFlt
      have hJat : ∀ k ∈ (Value.slice ja jn jc).ownBlock.toList ++ blocksOf qj, k ∈ F := fun k hk => by rw [hFe, hF1]; exact List.mem_append.2 (.inl hk)
      obtain ⟨g', cap', w4, hrun, hO4, hgr, hat4⟩ := OwnG.appRun (P := Try.prog) (z := .agg #[.int .i64 0, .slice none 0 0, .int .i64 0, .slice none 0 0]) Try.underlying24 infoJ rfl (by decide) (hJsD.below hbv) hxj (fun b hb hc => by
        rw [List.append_nil, List.mem_singleton] at hb
        have h2 := hFl b (hJat b hc)
        omega) hNb (by unfold maxLen; omega) (by omega) 24
      rw [← HJL.out] at hrun hO4
      refine last.wpAnyL_one (i := 7) (o := { dst := some 54, op := Op.call { callee := Callee.builtin Builtin.append, args := #[Operand.tmp 51, Operand.tmp 53], argTypes := #[24, 24] }, type := 24, pos := "l11_coord.go:98", after := #[{ on := 4, ground := Ground.data }, { on := 6, ground := Ground.data }], guard := none }) (by kernel_rfl) rfl (fun K hK => ?_)
      refine step_append_run rfl (.tmp 51) (.tmp 53) 24 rfl (by kernel_rfl) (by kernel_rfl) hrun ?_
      have hvs := hbv.size
      have hvb : ∀ k, (Value.slice ja jn jc).ownBlock = some k → k ∈ F := fun k e => hJat k (List.mem_append.2 (.inl (by rw [e]; simp)))
      have hX4 := (hX2D.below hbv).grown hgr (fun e => hXF (hvb X e.symm))
      have hJ4 := (hJ2D.below hbv).grown hgr (fun e => by have := hFl J (hvb J e.symm); omega)
      have hO5 := hO3.grown hgr (fun e => by have := hFl g1 (hvb g1 e.symm); omega)
      have hF4 : lay.Frame (X :: F) w w4 := ((hF2D.mono (G' := X :: F) (fun j hj => by rw [List.mem_singleton] at hj; subst hj; exact List.mem_cons_self)).below hbv).grown hgr (fun k e => .inl (List.mem_cons_of_mem _ (hvb k e)))
      have hg'b : g' ∈ F ∨ w.heap.size ≤ g' := by
        rcases hat4 with e | e
        · exact .inl (hvb g' e)
        · exact .inr (by omega)
      have hL4 := (hLsD.below hbv).keep fun k hk => hgr.block k ((hLsD.below hbv).at_ k hk) (fun e => by
        have h1 := hvb k e.symm
        rw [(flat_ch.parts HL.out).2.2.1, List.append_nil] at hk
        have h2 : k ∈ F1 := by rw [hF1]; exact List.mem_append.2 (.inl (by rw [← e]; simp))
        have h3 := HND.out
        rw [hFe] at h3
        exact (nodup_parts h3).2.2 k h2 hk)
      clear hrun
      refine hK.out _ _ ?_ (fun hHeld => ?_)
      · exact ⟨hX4, hJ4⟩
      clear hK K hHeld0
      have hHeld0 := hHeld
      clear hHeld
      try simp only [Act.put, List.setIfInBounds_toArray, List.set_cons_zero, List.set_cons_succ]
      refine last.wpAnyL_one (i := 8) (o := { dst := some 55, op := Op.nilCheck (Operand.tmp 47), type := 0, pos := "l11_coord.go:98", after := #[{ on := 0, ground := Ground.data }, { on := 0, ground := Ground.phase }, { on := 1, ground := Ground.phase }, { on := 2, ground := Ground.phase }, { on := 3, ground := Ground.phase }, { on := 4, ground := Ground.phase }, { on := 5, ground := Ground.phase }, { on := 6, ground := Ground.phase }, { on := 7, ground := Ground.phase }], guard := none }) (by kernel_rfl) rfl (fun K hK => ?_)
      go_simp
      refine hK.out _ _ ?_ (fun hHeld => ?_)
      · exact ⟨hX4, hJ4⟩
      clear hK K hHeld0
      have hHeld0 := hHeld
      clear hHeld
      try simp only [Act.put, List.setIfInBounds_toArray, List.set_cons_zero, List.set_cons_succ]
      refine last.wpAnyL_take (i := 9) (v := (.pointer (some ⟨X, pre.length + 3, none⟩))) rfl rfl (by kernel_rfl) (by kernel_rfl) (by kernel_rfl) (by kernel_rfl) (fun _ _ _ h => h) (Or.inl ⟨by rfl, ?_⟩) (by assumption) ?_
      · intro wq hSq; go_simp
      try simp only [Act.put, List.setIfInBounds_toArray, List.set_cons_zero, List.set_cons_succ]
      have x3 := hX4.cell 3 _ rfl
      have f3 := hX4.fz (pre.length + 3)
      have hS3 := hX4.set 3 (by simp) (.slice (some ⟨g', 0, none⟩) (jn + 1) cap')
      obtain ⟨U3, hU3⟩ : ∃ U3, w4.setCell ⟨X, pre.length + 3, none⟩ (.slice (some ⟨g', 0, none⟩) (jn + 1) cap') = U3 := ⟨_, rfl⟩
      rw [hU3] at hS3
      have HU3 := Hid.mk' hU3
      clear hU3
      refine last.wpAnyL_last (o := { dst := none, op := Op.store 24 (Operand.tmp 56) (Operand.tmp 54), type := 0, pos := "l11_coord.go:98", after := #[{ on := 9, ground := Ground.data }, { on := 7, ground := Ground.data }, { on := 7, ground := Ground.chain }, { on := 0, ground := Ground.phase }, { on := 1, ground := Ground.phase }, { on := 2, ground := Ground.phase }, { on := 3, ground := Ground.phase }, { on := 4, ground := Ground.phase }, { on := 5, ground := Ground.phase }, { on := 6, ground := Ground.phase }, { on := 7, ground := Ground.phase }], guard := none }) (by kernel_rfl) rfl (by kernel_rfl) (fun K hK => ?_)
      go_simp
      refine hK.out _ _ ?_
      clear hK K
      rw [HU3.out]
      have hs4 := hgr.size
      have hgX : g' ≠ X := fun e => by
        rcases hat4 with e2 | e2
        · exact hXF (e ▸ hvb g' e2)
        · omega
      have hX3 : BoxIn X T pre [.int .i64 n, .int .i64 life, .int .i64 (next + 1), .slice (some ⟨g', 0, none⟩) (jn + 1) cap', .slice la ln lc, .int .i64 sure] post U3 := hS3.1
      have hJ3 := hJ4.grown hS3.2 (by simp; omega)
      have hO6 := hO5.grown hS3.2 (by simp; omega)
      have hF3 : lay.Frame (X :: F) w U3 := hF4.grown hS3.2 (fun k e => by cases e; exact .inl List.mem_cons_self)
      have hqb : ∀ k ∈ g' :: blocksOf (qj ++ [([.int .i64 (life * 1000 + next), .slice (some ⟨g1, 0, none⟩) len cp1, .int .i64 1, .slice none 0 0], [g1] ++ [])]), (k ∈ F1 ∨ w.heap.size ≤ k) ∧ k ≠ X := fun k hk => by
        rw [blocksOf_append] at hk
        rcases List.mem_cons.1 hk with e | e
        · refine ⟨?_, fun e2 => hgX (e.symm.trans e2)⟩
          rcases hat4 with e2 | e2
          · exact .inl (by rw [hF1, e]; exact List.mem_append.2 (.inl (by rw [e2]; simp)))
          · exact .inr (by omega)
        · rcases List.mem_append.1 e with e | e
          · exact ⟨.inl (by rw [hF1]; exact List.mem_append.2 (.inr e)), fun e2 => hXF (e2 ▸ hJat k (List.mem_append.2 (.inr e)))⟩
          · have : k = g1 := by simpa [blocksOf] using e
            exact ⟨.inr (by omega), by omega⟩
      have hO7 := hO4.keep fun k hk => hS3.2.block k (hO4.at_ k hk) (fun e => (hqb k (by simpa [Value.ownBlock] using hk)).2 (Option.some.inj e))
      have hL7 := hL4.keep fun k hk => hS3.2.block k (hL4.at_ k hk) (fun e => by
        rw [(flat_ch.parts HL.out).2.2.1, List.append_nil] at hk
        have e2 := Option.some.inj e
        exact hXF (by rw [hFe, ← e2]; exact List.mem_append.2 (.inr hk)))
      have hwf3 : WfCo (n, life, next + 1, jobs ++ [(life * 1000 + next, ops, 1, [])], log, sure) := ⟨hnw, HWF.out.life, hxw, HWF.out.sure⟩
      have HO7 := Hid.mk' hO7
      have HL7 := Hid.mk' hL7
      have HF3 := Hid.mk' hF3
      have HQB := Hid.mk' hqb
      have HFE := Hid.mk' hFe
      have HX3 := Hid.mk' hX3
      have HJ3 := Hid.mk' hJ3
      clear hO7 hL7 hF3 hqb hO4 hL4 hF4 hS3 HU3 x3 f3 hX4 hJ4 hO5 hgr hat4 hHeld0 hX3 hJ3
      go_wp2_with fail
      have hdE : Below U3.heap.size U3 U3.drew := (Below.refl _ _).drew
      have HHO := Hid.mk' (fun wx (hx : Below U3.heap.size U3 wx) => spec_holds n life (next + 1) sure (some ⟨g', 0, none⟩) (jn + 1) cap' la ln lc (life * 1000 + next) 1 (some ⟨g1, 0, none⟩) len cp1 none 0 0 ops [] wx htw (hO6.below hx).sl slz_none hol8 hnw)
      refine last.wp_region_later (S := fun w' => Below U3.heap.size U3 w') 8 (by kernel_rfl) hdE (fun hHeld0 => ?_)
      generalize hD3 : U3.drew = D3 at *
      clear hD3
      refine last.wpAnyL_take (i := 0) (v := (.pointer (some ⟨X, pre.length, none⟩))) rfl rfl (by kernel_rfl) (by kernel_rfl) (by kernel_rfl) (by kernel_rfl) (fun _ _ _ h => h) (Or.inl ⟨by rfl, ?_⟩) (by assumption) ?_
      · intro wq hSq; go_simp
      try simp only [Act.put, List.setIfInBounds_toArray, List.set_cons_zero, List.set_cons_succ]
      refine last.wpAnyL_take (i := 1) (v := (.pointer (some ⟨X, pre.length, none⟩))) rfl rfl (by kernel_rfl) (by kernel_rfl) (by kernel_rfl) (by kernel_rfl) (fun _ _ _ h => h) (Or.inl ⟨by rfl, ?_⟩) (by assumption) ?_
      · intro wq hSq; go_simp
      try simp only [Act.put, List.setIfInBounds_toArray, List.set_cons_zero, List.set_cons_succ]
      refine last.wpAnyL_take (i := 2) (v := (.agg #[.int .i64 n, .int .i64 life, .int .i64 (next + 1), .slice (some ⟨g', 0, none⟩) (jn + 1) cap', .slice la ln lc, .int .i64 sure])) rfl rfl (by kernel_rfl) (by kernel_rfl) (by kernel_rfl) (by kernel_rfl) (fun _ _ _ h => h) (Or.inl ⟨by rfl, ?_⟩) (by assumption) ?_
      · intro wq hSq; obtain ⟨q0, q1, q2, q3, q4, q5⟩ := cells6p (HX3.out.below hSq); go_simp
      try simp only [Act.put, List.setIfInBounds_toArray, List.set_cons_zero, List.set_cons_succ]
      refine last.wpAnyL_take (i := 3) (v := (.agg #[.int .i64 (life * 1000 + next), .slice (some ⟨g1, 0, none⟩) len cp1, .int .i64 1, .slice none 0 0])) rfl rfl (by kernel_rfl) (by kernel_rfl) (by kernel_rfl) (by kernel_rfl) (fun _ _ _ h => h) (Or.inl ⟨by rfl, ?_⟩) (by assumption) ?_
      · intro wq hSq; obtain ⟨q0, q1, q2, q3⟩ := cells4 (HJ3.out.below hSq); go_simp
      try simp only [Act.put, List.setIfInBounds_toArray, List.set_cons_zero, List.set_cons_succ]
      refine last.wpAnyL_take (i := 5) (v := (.pointer (some ⟨J, 0, none⟩))) rfl rfl (by kernel_rfl) (by kernel_rfl) (by kernel_rfl) (by kernel_rfl) (fun _ _ _ h => h) (Or.inl ⟨by rfl, ?_⟩) (by assumption) ?_
      · intro wq hSq; go_simp
      try simp only [Act.put, List.setIfInBounds_toArray, List.set_cons_zero, List.set_cons_succ]
      refine last.wpAnyL_take (i := 6) (v := (.int .i64 (life * 1000 + next))) rfl rfl (by kernel_rfl) (by kernel_rfl) (by kernel_rfl) (by kernel_rfl) (fun _ _ _ h => h) (Or.inl ⟨by rfl, ?_⟩) (by assumption) ?_
      · intro wq hSq; obtain ⟨q0, q1, q2, q3⟩ := cells4 (HJ3.out.below hSq); go_simp
      try simp only [Act.put, List.setIfInBounds_toArray, List.set_cons_zero, List.set_cons_succ]
      refine last.wpAnyL_one (i := 4) (o := { dst := some 61, op := Op.call { callee := Callee.value (Operand.func 74), args := #[Operand.tmp 59, Operand.tmp 60], argTypes := #[27, 37] }, type := 82, pos := "l11_coord.go:99", after := #[{ on := 2, ground := Ground.data }, { on := 3, ground := Ground.data }], guard := none }) (by kernel_rfl) rfl (fun K hK => ?_)
      refine stepg.call2 rfl 74 (.tmp 59) (.tmp 60) _ rfl (fun _ _ => rfl) (.agg #[.int .i64 n, .int .i64 life, .int .i64 (next + 1), .slice (some ⟨g', 0, none⟩) (jn + 1) cap', .slice la ln lc, .int .i64 sure]) (.agg #[.int .i64 (life * 1000 + next), .slice (some ⟨g1, 0, none⟩) len cp1, .int .i64 1, .slice none 0 0]) (by kernel_rfl) (by kernel_rfl) _ (HHO.out _ hdE) ?_
      rintro e w5 ⟨gw, mw, capw, qw, rfl, hW5, hqw, hb5⟩
      refine ⟨_, rfl, ?_⟩
      have hb55 := hdE.trans (hb5.mono hdE.size)
      refine hK.out _ _ ?_ (fun hHeld => ?_)
      · exact hb55
      clear hK K hHeld0
      have hHeld0 := hHeld
      clear hHeld
      try simp only [Act.put, List.setIfInBounds_toArray, List.set_cons_zero, List.set_cons_succ]
      refine last.wpAnyL_take (i := 7) (v := (.slice (some ⟨gw, 0, none⟩) mw capw)) rfl rfl (by kernel_rfl) (by kernel_rfl) (by kernel_rfl) (by kernel_rfl) (fun _ _ _ h => h) (Or.inl ⟨by rfl, ?_⟩) (by assumption) ?_
      · intro wq hSq; go_simp
      try simp only [Act.put, List.setIfInBounds_toArray, List.set_cons_zero, List.set_cons_succ]
      have HP := Hid.mk' (begun_yes (tx := life * 1000 + next) HX3.out HO7.out HL7.out HF3.out hwf3 HQB.out HFE.out HND.out hXF hFlt hW5 (fun k hk => Nat.le_trans hdE.size (hqw k hk)) hb55)
      refine last.wpAnyL_last (o := { dst := some 5, op := Op.assign (Operand.tmp 63), type := 3, pos := "l11_coord.go:99", after := #[{ on := 6, ground := Ground.data }, { on := 7, ground := Ground.chain }, { on := 0, ground := Ground.phase }, { on := 1, ground := Ground.phase }, { on := 2, ground := Ground.phase }, { on := 3, ground := Ground.phase }, { on := 4, ground := Ground.phase }, { on := 5, ground := Ground.phase }, { on := 6, ground := Ground.phase }, { on := 7, ground := Ground.phase }], guard := none }) (by kernel_rfl) rfl (by kernel_rfl) (fun K hK => ?_)
      go_simp
      refine hK.out _ _ ?_
      clear hK K
      go_wp2_with fail
      go_returns
      exact HP.out
end Go.Proofs.Ytdeaiefhegjalaa.cos
