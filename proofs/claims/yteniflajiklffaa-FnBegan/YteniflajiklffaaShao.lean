/- The specification's one who decides: orders begin. Marks on rows of structs. No function of the program is named here. One cell of an element of a row is written, and what the element owns may change with it. No function of the program is named here. The specification's number put into ascending ones, whoever owns them. -/
import Derived.Test.YteniflajiklffaaShal
import Derived.Test.YteniflajiklffaaSham
import Derived.Test.YteniflajiklffaaShan
import Derived.Test.YteniflajiklffaaShak
import Derived.Test.YteniflajiklffaaShaj
import Derived.Test.YteniflajiklffaaShae
import Derived.Test.YteniflajiklffaaShag
import Derived.Test.YteniflajiklffaaShac
namespace Go.Proofs.Yteniflajiklffaa.cos
open Go Go.RowKit Go.Proofs.Yteniflajiklffaa.base Go.Proofs.Yteniflajiklffaa.pairs Go.Proofs.Yteniflajiklffaa.ords Go.Proofs.Yteniflajiklffaa.lay Go.Proofs.Yteniflajiklffaa.wds
set_option linter.unusedVariables false
set_option linter.unusedSimpArgs false

def BegunPost (w : World) (X : Nat) (T : TypeId) (pre post : List Value) (F : List Nat) (r : Co × List Wd × Int) (e : Ending) (w' : World) : Prop :=
  ∃ g m cap q ja jn jc la ln lc F', e = .returned (.tuple #[.slice (some ⟨g, 0, none⟩) m cap, .int .i64 r.2.2]) ∧ OwnG 39 wordR w' (.slice (some ⟨g, 0, none⟩) m cap) r.2.1 q ∧ (∀ k ∈ g :: blocksOf q, w.heap.size ≤ k ∧ k ∉ F') ∧ InCo w' X T pre post ja jn jc la ln lc r.1 F' ∧ lay.Frame (X :: F) w w' ∧ Fresh w F F'
def beginS (c : Co) (ops : List Od) : Co × List Wd × Int := if mayBegin c ops = true then (begunC c ops, holdsW c.1 (nextTx c) ops [] (shardsOf c.1 ops), nextTx c) else (c, [], 0)
theorem InCo.below {w w' : World} {X : Nat} {T : TypeId} {pre post : List Value} {ja la : Option Addr} {jn jc ln lc : Nat} {c : Co} {F : List Nat} (h : InCo w X T pre post ja jn jc la ln lc c F) (hb : Below w.heap.size w w') : InCo w' X T pre post ja jn jc la ln lc c F := ⟨h.box.below hb, coordR.ownBelow h.own hb, h.out⟩
theorem cells6p {X : Nat} {T : TypeId} {w : World} {pre post : List Value} {v0 v1 v2 v3 v4 v5 : Value} (h : BoxIn X T pre [v0, v1, v2, v3, v4, v5] post w) : w.cell? ⟨X, pre.length, none⟩ = some v0 ∧ w.cell? ⟨X, pre.length + 1, none⟩ = some v1 ∧ w.cell? ⟨X, pre.length + 2, none⟩ = some v2 ∧ w.cell? ⟨X, pre.length + 3, none⟩ = some v3 ∧ w.cell? ⟨X, pre.length + 4, none⟩ = some v4 ∧ w.cell? ⟨X, pre.length + 5, none⟩ = some v5 := ⟨h.cell 0 _ rfl, h.cell 1 _ rfl, h.cell 2 _ rfl, h.cell 3 _ rfl, h.cell 4 _ rfl, h.cell 5 _ rfl⟩
theorem begun_no {w w1 : World} {X : Nat} {T : TypeId} {pre post : List Value} {ja la : Option Addr} {jn jc ln lc : Nat} {c : Co} {F : List Nat} (h : InCo w X T pre post ja jn jc la ln lc c F) (hb : Below w.heap.size w w1) : BegunPost w X T pre post F (c, [], 0) (.returned (.tuple #[.slice (some ⟨w1.heap.size, 0, none⟩) 0 0, .int .i64 0])) (w1.alloc (.cells #[] 39)) := by
  have hbm : Below w1.heap.size w1 (w1.alloc (.cells #[] 39)) := below_make
  have hb2 := hb.trans (hbm.mono hb.size)
  refine ⟨w1.heap.size, 0, 0, [], ja, jn, jc, la, ln, lc, F, rfl, lay.ownG_made _ _ _, fun k hk => ?_, h.below hb2, lay.Frame.of_below hb2, Fresh.refl _ _⟩
  have e : k = w1.heap.size := by simpa [blocksOf] using hk
  have := hb.size
  refine ⟨by omega, fun hm => ?_⟩
  have := coordR.ownLt h.own k hm
  omega
theorem begun_yes {w U w5 : World} {X : Nat} {T : TypeId} {pre post : List Value} {la : Option Addr} {m ln lc g' cap' gw mw capw : Nat} {c : Co} {F F1 : List Nat} {q4 ql qw : Parts} {words : List Wd} {tx : Int} (hX : BoxIn X T pre [.int .i64 c.1, .int .i64 c.2.1, .int .i64 c.2.2.1, .slice (some ⟨g', 0, none⟩) m cap', .slice la ln lc, .int .i64 c.2.2.2.2.2] post U) (hO : OwnG 65 jobR U (.slice (some ⟨g', 0, none⟩) m cap') c.2.2.2.1 q4) (hL : OwnG 42 chR U (.slice la ln lc) c.2.2.2.2.1 ql) (hF : lay.Frame (X :: F) w U) (hwf : WfCo c) (hq : ∀ k ∈ g' :: blocksOf q4, (k ∈ F1 ∨ w.heap.size ≤ k) ∧ k ≠ X) (hFe : F = F1 ++ (Value.slice la ln lc).ownBlock.toList) (hnd : F.Nodup) (hXF : X ∉ F) (hFlt : ∀ k ∈ F, k < w.heap.size) (hW : OwnG 39 wordR w5 (.slice (some ⟨gw, 0, none⟩) mw capw) words qw) (hqw : ∀ k ∈ gw :: blocksOf qw, U.heap.size ≤ k) (hb : Below U.heap.size U w5) :
    BegunPost w X T pre post F (c, words, tx) (.returned (.tuple #[.slice (some ⟨gw, 0, none⟩) mw capw, .int .i64 tx])) w5 := by
  have hlb : ∀ k ∈ (Value.slice la ln lc).ownBlock.toList, k ∈ F := fun k hk => by rw [hFe]; exact List.mem_append.2 (.inr hk)
  have hdis : ∀ k ∈ g' :: blocksOf q4, k ∉ (Value.slice la ln lc).ownBlock.toList := fun k hk h2 => by
    rcases (hq k hk).1 with e | e
    · rw [hFe] at hnd
      exact (nodup_parts hnd).2.2 k e h2
    · have := hFlt k (hlb k h2); omega
  have hOn : (g' :: blocksOf q4).Nodup := by simpa [Value.ownBlock] using hO.nodup
  have hll : logR.own U [.slice la ln lc] c.2.2.2.2.1 (Value.slice la ln lc).ownBlock.toList := logs_own.2 ⟨⟨ql, hL⟩, rfl⟩
  have hown : coordR.own U [.int .i64 c.1, .int .i64 c.2.1, .int .i64 c.2.2.1, .slice (some ⟨g', 0, none⟩) m cap', .slice la ln lc, .int .i64 c.2.2.2.2.2] c ((g' :: blocksOf q4) ++ (Value.slice la ln lc).ownBlock.toList) :=
    coord_own.2 ⟨_, _, g' :: blocksOf q4, _, rfl, hwf, ⟨_, q4, rfl, by simp [Value.ownBlock], hO⟩, hll, rfl, nodup_mk hOn (logR.ownNodup hll) hdis⟩
  have hlt := coordR.ownLt hown
  refine ⟨gw, mw, capw, qw, _, _, _, la, ln, lc, _, rfl, hW, fun k hk => ⟨by have := hqw k hk; have := hF.size; omega, fun hm => ?_⟩, ⟨hX.below hb, coordR.ownBelow hown hb, fun e => ?_⟩, hF.below hb, fun k hk => ?_⟩
  · have := hlt k hm
    have := hqw k hk
    omega
  · rcases List.mem_append.1 e with e | e
    · exact (hq X e).2 rfl
    · exact hXF (hlb X e)
  · rcases List.mem_append.1 hk with e | e
    · rcases (hq k e).1 with e2 | e2
      · exact .inl (by rw [hFe]; exact List.mem_append.2 (.inl e2))
      · exact .inr e2
    · exact .inl (hlb k e)
set_option maxRecDepth 100000 in
set_option maxHeartbeats 4000000 in
theorem spec_l11Begin (X : Nat) (T : TypeId) (pre post : List Value) (ja : Option Addr) (jn jc : Nat) (la : Option Addr) (ln lc : Nat) (c : Co) (F : List Nat) (a : Option Addr) (len cap : Nat) (ops : List Od) (w : World) (h : InCo w X T pre post ja jn jc la ln lc c F) (hst : ∀ w', lay.Frame (X :: F) w w' → SlO w' a len ops) (hks : ∀ p ∈ ops, p.2.1.size ≤ 1099511627776) (hlife : 1 ≤ c.2.1 ∧ c.2.1 ≤ 900) (hnext : 0 ≤ c.2.2.1 ∧ c.2.2.1 ≤ 999) (hj8 : c.2.2.2.1.length ≤ 1048576) (hl8 : c.2.2.2.2.1.length ≤ 1048576) :
    Calls Try.prog 35 #[.pointer (some ⟨X, pre.length, none⟩), .slice a len cap] w (BegunPost w X T pre post F (beginS c ops)) := by
  have H0 := Hid.mk' h
  obtain ⟨hbx, hown, hXF⟩ := h
  have hXl := hbx.lt
  obtain ⟨n, life, next, jobs, log, sure⟩ := c
  simp only [] at *
  have hSo := hst w (lay.Frame.refl _ _)
  have HOK := Hid.mk' (spec_opsOkA a len cap ops w hSo hks)
  obtain ⟨vx, vy, F1, F2, e, hwf, hj, hl, hFe, hnd⟩ := coord_own.1 hown
  simp only [List.cons.injEq, and_true, true_and] at e
  obtain ⟨rfl, rfl⟩ := e
  obtain ⟨⟨ql, hL⟩, rfl⟩ := logs_own.1 hl
  have hlnl : ln = log.length := hL.sl.1.symm
  have HBX := Hid.mk' hbx
  cases hok : opsOk ops with
  | false =>
    have HE : Hid (beginS (n, life, next, jobs, log, sure) ops = ((n, life, next, jobs, log, sure), [], 0)) := by show _ = _; unfold beginS mayBegin; rw [hok]; rfl
    rw [hok] at HOK
    clear hok hbx hown hj hl hL hlnl hwf hnd hFe hSo hlife hnext
    rw [HE.out]
    go_enter Try.func35, Try.ntmps35
    go_wp2_with fail
    refine HOK.out.mono ?_
    rintro e w1 ⟨rfl, hb1⟩
    have HP := Hid.mk' (begun_no H0.out hb1)
    clear HOK HBX H0 hst
    go_wp2_with fail
    go_returns
    exact HP.out
  | true =>
    rw [hok] at HOK
    by_cases h9 : next = 999
    · have HE : Hid (beginS (n, life, next, jobs, log, sure) ops = ((n, life, next, jobs, log, sure), [], 0)) := by show _ = _; unfold beginS mayBegin; rw [hok]; simp [h9]
      have hq9 : (next == 999) = true := beq_iff_eq.2 h9
      clear hok hbx hown hj hl hL hlnl hwf hnd hFe hSo hlife hnext h9
      rw [HE.out]
      go_enter Try.func35, Try.ntmps35
      go_wp2_with fail
      refine HOK.out.mono ?_
      rintro e w1 ⟨rfl, hb1⟩
      have HP := Hid.mk' (begun_no H0.out hb1)
      have x2 := (HBX.out.below hb1).cell 2 _ rfl
      clear HOK HBX H0 hst HE
      generalize next = nx at *
      go_wp2_with fail
      go_returns
      exact HP.out
    have hq9 : (next == 999) = false := beq_eq_false_iff_ne.2 h9
    by_cases hfull : 1000 ≤ ln
    · have HE : Hid (beginS (n, life, next, jobs, log, sure) ops = ((n, life, next, jobs, log, sure), [], 0)) := by show _ = _; unfold beginS mayBegin; rw [hok]; simp; omega
      have hfi : ¬ (ln : Int) < 1000 := by omega
      have hfi2 : (1000 : Int) ≤ (ln : Int) := by omega
      clear hok hbx hown hj hl hL hlnl hwf hnd hFe hSo hlife hnext h9
      rw [HE.out]
      go_enter Try.func35, Try.ntmps35
      go_wp2_with fail
      refine HOK.out.mono ?_
      rintro e w1 ⟨rfl, hb1⟩
      have HP := Hid.mk' (begun_no H0.out hb1)
      have x2 := (HBX.out.below hb1).cell 2 _ rfl
      have x4 := (HBX.out.below hb1).cell 4 _ rfl
      clear HOK HBX H0 hst HE
      generalize next = nx at *
      go_wp2_with fail
      go_returns
      exact HP.out
    have hfi : (ln : Int) < 1000 := by omega
    have hfi2 : ¬ (1000 : Int) ≤ (ln : Int) := by omega
    have HE : Hid (beginS (n, life, next, jobs, log, sure) ops = ((n, life, next + 1, jobs ++ [(life * 1000 + next, ops, 1, [])], log, sure), holdsW n (life * 1000 + next) ops [] (shardsOf n ops), life * 1000 + next)) := by
      show _ = _
      unfold beginS mayBegin
      rw [hok, if_pos (by simp; omega)]
      rfl
    rw [HE.out]
    have hol8 : len ≤ 8 := by have := hSo.1; have := (opsOk_len hok).2; omega
    obtain ⟨vj, qj, e, hF1, hJ⟩ := hj
    simp only [List.cons.injEq, and_true] at e
    subst e
    have hjl : jn = jobs.length := hJ.sl.1.symm
    have hnw := hwf.n
    have w1 : IntKind.i64.wrap (life * 1000) = life * 1000 := by rw [IntKind.wrap_i64]; omega
    have w2 : IntKind.i64.wrap (life * 1000 + next) = life * 1000 + next := by rw [IntKind.wrap_i64]; omega
    have w3 : IntKind.i64.wrap (next + 1) = next + 1 := by rw [IntKind.wrap_i64]; omega
    have htw : (Lit.int .i64 (life * 1000 + next)).wf = true := WalkArith.wf_i64 (by omega)
    have hxw : (Lit.int .i64 (next + 1)).wf = true := WalkArith.wf_i64 (by omega)
    have HWF := Hid.mk' hwf
    have HST := Hid.mk' hst
    have HJ := Hid.mk' hJ
    have HL := Hid.mk' hL
    have HND := Hid.mk' hnd
    have hFlt := coordR.ownLt hown
    have HJL := Hid.mk' hjl
    clear hok hbx hown hl hL hlnl hwf hnd hSo hlife hnext h9 hfull hst hJ H0 HE hjl
    go_enter Try.func35, Try.ntmps35
    go_wp2_with fail
    refine HOK.out.mono ?_
    rintro e W1 ⟨rfl, hb1⟩
    have x2 := (HBX.out.below hb1).cell 2 _ rfl
    have x4 := (HBX.out.below hb1).cell 4 _ rfl
    clear HOK
    go_wp2_with fail
    clear x2 x4
    have hb1s := hb1.size
    have hdW : Below W1.heap.size W1 W1.drew := (Below.refl _ _).drew
    have HX1 := Hid.mk' (HBX.out.below hb1)
    have HCP := Hid.mk' (fun wx (hx : Below w.heap.size w wx) => spec_copyOps a len cap ops wx (HST.out wx (lay.Frame.of_below hx)) (by omega))
    refine last.wp_region_later (S := fun w' => Below W1.heap.size W1 w') 14 (by kernel_rfl) hdW (fun hHeld0 => ?_)
    generalize hD : W1.drew = D at *
    clear hD
    refine last.wpAnyL_take (i := 0) (v := (.pointer (some ⟨X, pre.length, none⟩))) rfl rfl (by kernel_rfl) (by kernel_rfl) (by kernel_rfl) (by kernel_rfl) (fun _ _ _ h => h) (Or.inl ⟨by rfl, ?_⟩) (by assumption) ?_
    · intro wq hSq; go_simp
    try simp only [Act.put, List.setIfInBounds_toArray, List.set_cons_zero, List.set_cons_succ]
    refine last.wpAnyL_take (i := 1) (v := (.pointer (some ⟨X, pre.length, none⟩))) rfl rfl (by kernel_rfl) (by kernel_rfl) (by kernel_rfl) (by kernel_rfl) (fun _ _ _ h => h) (Or.inl ⟨by rfl, ?_⟩) (by assumption) ?_
    · intro wq hSq; go_simp
    try simp only [Act.put, List.setIfInBounds_toArray, List.set_cons_zero, List.set_cons_succ]
    refine last.wpAnyL_take (i := 2) (v := (.pointer (some ⟨X, pre.length + 1, none⟩))) rfl rfl (by kernel_rfl) (by kernel_rfl) (by kernel_rfl) (by kernel_rfl) (fun _ _ _ h => h) (Or.inl ⟨by rfl, ?_⟩) (by assumption) ?_
    · intro wq hSq; go_simp
    try simp only [Act.put, List.setIfInBounds_toArray, List.set_cons_zero, List.set_cons_succ]
    refine last.wpAnyL_take (i := 3) (v := (.int .i64 life)) rfl rfl (by kernel_rfl) (by kernel_rfl) (by kernel_rfl) (by kernel_rfl) (fun _ _ _ h => h) (Or.inl ⟨by rfl, ?_⟩) (by assumption) ?_
    · intro wq hSq; have q := (HX1.out.below hSq).cell 1 _ rfl; go_simp
    try simp only [Act.put, List.setIfInBounds_toArray, List.set_cons_zero, List.set_cons_succ]
    refine last.wpAnyL_take (i := 4) (v := (.int .i64 (life * 1000))) rfl rfl (by kernel_rfl) (by kernel_rfl) (by kernel_rfl) (by kernel_rfl) (fun _ _ _ h => h) (Or.inl ⟨by rfl, ?_⟩) (by assumption) ?_
    · intro wq hSq; go_simp
    try simp only [Act.put, List.setIfInBounds_toArray, List.set_cons_zero, List.set_cons_succ]
    refine last.wpAnyL_take (i := 5) (v := (.pointer (some ⟨X, pre.length, none⟩))) rfl rfl (by kernel_rfl) (by kernel_rfl) (by kernel_rfl) (by kernel_rfl) (fun _ _ _ h => h) (Or.inl ⟨by rfl, ?_⟩) (by assumption) ?_
    · intro wq hSq; go_simp
    try simp only [Act.put, List.setIfInBounds_toArray, List.set_cons_zero, List.set_cons_succ]
    refine last.wpAnyL_take (i := 6) (v := (.pointer (some ⟨X, pre.length, none⟩))) rfl rfl (by kernel_rfl) (by kernel_rfl) (by kernel_rfl) (by kernel_rfl) (fun _ _ _ h => h) (Or.inl ⟨by rfl, ?_⟩) (by assumption) ?_
    · intro wq hSq; go_simp
    try simp only [Act.put, List.setIfInBounds_toArray, List.set_cons_zero, List.set_cons_succ]
    refine last.wpAnyL_take (i := 7) (v := (.pointer (some ⟨X, pre.length + 2, none⟩))) rfl rfl (by kernel_rfl) (by kernel_rfl) (by kernel_rfl) (by kernel_rfl) (fun _ _ _ h => h) (Or.inl ⟨by rfl, ?_⟩) (by assumption) ?_
    · intro wq hSq; go_simp
    try simp only [Act.put, List.setIfInBounds_toArray, List.set_cons_zero, List.set_cons_succ]
    refine last.wpAnyL_take (i := 8) (v := (.int .i64 next)) rfl rfl (by kernel_rfl) (by kernel_rfl) (by kernel_rfl) (by kernel_rfl) (fun _ _ _ h => h) (Or.inl ⟨by rfl, ?_⟩) (by assumption) ?_
    · intro wq hSq; have q := (HX1.out.below hSq).cell 2 _ rfl; go_simp
    try simp only [Act.put, List.setIfInBounds_toArray, List.set_cons_zero, List.set_cons_succ]
    refine last.wpAnyL_take (i := 9) (v := (.int .i64 (life * 1000 + next))) rfl rfl (by kernel_rfl) (by kernel_rfl) (by kernel_rfl) (by kernel_rfl) (fun _ _ _ h => h) (Or.inl ⟨by rfl, ?_⟩) (by assumption) ?_
    · intro wq hSq; go_simp
    try simp only [Act.put, List.setIfInBounds_toArray, List.set_cons_zero, List.set_cons_succ]
    refine last.wpAnyL_take (i := 10) (v := (.slice a len cap)) rfl rfl (by kernel_rfl) (by kernel_rfl) (by kernel_rfl) (by kernel_rfl) (fun _ _ _ h => h) (Or.inl ⟨by rfl, ?_⟩) (by assumption) ?_
    · intro wq hSq; go_simp
    try simp only [Act.put, List.setIfInBounds_toArray, List.set_cons_zero, List.set_cons_succ]
    refine last.wpAnyL_two (i := 11) (j := 13) (o := { dst := some 37, op := Op.call { callee := Callee.value (Operand.func 62), args := #[Operand.tmp 36], argTypes := #[28] }, type := 28, pos := "l11_coord.go:96", after := #[{ on := 10, ground := Ground.data }], guard := none }) (o' := { dst := some 6, op := Op.alloc 65, type := 0, pos := "l11_coord.go:96", after := #[], guard := none }) (by kernel_rfl) rfl rfl (fun K hK => ?wayA) (fun K hK => ?wayB)
    case' wayA =>
      refine stepg.call1 rfl 62 (.tmp 36) _ rfl (fun _ _ => rfl) (.slice a len cap) (by kernel_rfl) _ (HCP.out _ (hb1.trans (hdW.mono hb1.size))) ?_
      rintro e wB ⟨g1, cp1, rfl, hO1, hbc⟩
      refine ⟨_, rfl, ?_⟩
      have hb_wB := hdW.trans (hbc.mono hdW.size)
      have hg1l := hO1.lt
      have hbcs := hbc.size
      have hbs := hdW.size
      refine hK.out _ _ ?_ (fun hHeld => ?_)
      · exact hb_wB
      clear hK K hHeld0
      have hHeld0 := hHeld
      clear hHeld
      try simp only [Act.put, List.setIfInBounds_toArray, List.set_cons_zero, List.set_cons_succ]
      refine last.wpAnyL_take (i := 12) (v := (.agg #[.int .i64 (life * 1000 + next), .slice (some ⟨g1, 0, none⟩) len cp1, .int .i64 1, .slice none 0 0])) rfl rfl (by kernel_rfl) (by kernel_rfl) (by kernel_rfl) (by kernel_rfl) (fun _ _ _ h => h) (Or.inl ⟨by rfl, ?_⟩) (by assumption) ?_
      · intro wq hSq; go_simp
      try simp only [Act.put, List.setIfInBounds_toArray, List.set_cons_zero, List.set_cons_succ]
      refine last.wpAnyL_one (i := 13) (o := { dst := some 6, op := Op.alloc 65, type := 0, pos := "l11_coord.go:96", after := #[], guard := none }) (by kernel_rfl) rfl (fun K hK => ?_)
      go_simp
      obtain ⟨wZ, hw_wZ⟩ : ∃ V, wB.alloc (.cells #[.int .i64 0, .slice none 0 0, .int .i64 0, .slice none 0 0] 65) = V := ⟨_, rfl⟩
      have hba : Below wB.heap.size wB wZ := by rw [← hw_wZ]; exact below_make
      have hJb : BoxIn wB.heap.size 65 [] [.int .i64 0, .slice none 0 0, .int .i64 0, .slice none 0 0] [] wZ := by rw [← hw_wZ]; exact boxIn_new _ _ _
      have hb_wZ := hb_wB.trans (hba.mono hb_wB.size)
      have hJl := hJb.lt
      have hbas := hba.size
      have hbs0 := hb_wB.size
      rw [hw_wZ]
      refine hK.out _ _ ?_ (fun hHeld => ?_)
      · exact hb_wZ
      clear hK K hHeld0
      have hHeld0 := hHeld
      clear hHeld
      try simp only [Act.put, List.setIfInBounds_toArray, List.set_cons_zero, List.set_cons_succ]
      clear hw_wZ
      replace hO1 := hO1.below hba
      generalize hJJ : wB.heap.size = J at *
      have hne : g1 ≠ J := by omega
      have hJ1 : W1.heap.size ≤ J := by omega
      have hg11 : W1.heap.size ≤ g1 := by omega
      have hO1z := hO1.mono (base' := 0) (Nat.zero_le _)
      clear hO1 hg1l hbcs hbs hbas hbs0 hba hbc hb_wB
    case' wayB =>
      go_simp
      obtain ⟨wB, hw_wB⟩ : ∃ V, D.alloc (.cells #[.int .i64 0, .slice none 0 0, .int .i64 0, .slice none 0 0] 65) = V := ⟨_, rfl⟩
      have hba : Below D.heap.size D wB := by rw [← hw_wB]; exact below_make
      have hJb : BoxIn D.heap.size 65 [] [.int .i64 0, .slice none 0 0, .int .i64 0, .slice none 0 0] [] wB := by rw [← hw_wB]; exact boxIn_new _ _ _
      have hb_wB := hdW.trans (hba.mono hdW.size)
      have hJl := hJb.lt
      have hbas := hba.size
      have hbs0 := hdW.size
      rw [hw_wB]
      refine hK.out _ _ ?_ (fun hHeld => ?_)
      · exact hb_wB
      clear hK K hHeld0
      have hHeld0 := hHeld
      clear hHeld
      try simp only [Act.put, List.setIfInBounds_toArray, List.set_cons_zero, List.set_cons_succ]
      clear hw_wB
      refine last.wpAnyL_one (i := 11) (o := { dst := some 37, op := Op.call { callee := Callee.value (Operand.func 62), args := #[Operand.tmp 36], argTypes := #[28] }, type := 28, pos := "l11_coord.go:96", after := #[{ on := 10, ground := Ground.data }], guard := none }) (by kernel_rfl) rfl (fun K hK => ?_)
      refine stepg.call1 rfl 62 (.tmp 36) _ rfl (fun _ _ => rfl) (.slice a len cap) (by kernel_rfl) _ (HCP.out _ (hb1.trans (hb_wB.mono hb1.size))) ?_
      rintro e wZ ⟨g1, cp1, rfl, hO1, hbc⟩
      refine ⟨_, rfl, ?_⟩
      have hb_wZ := hb_wB.trans (hbc.mono hb_wB.size)
      have hg1l := hO1.lt
      have hbcs := hbc.size
      have hbs := hb_wB.size
      refine hK.out _ _ ?_ (fun hHeld => ?_)
      · exact hb_wZ
      clear hK K hHeld0
      have hHeld0 := hHeld
      clear hHeld
      try simp only [Act.put, List.setIfInBounds_toArray, List.set_cons_zero, List.set_cons_succ]
      refine last.wpAnyL_take (i := 12) (v := (.agg #[.int .i64 (life * 1000 + next), .slice (some ⟨g1, 0, none⟩) len cp1, .int .i64 1, .slice none 0 0])) rfl rfl (by kernel_rfl) (by kernel_rfl) (by kernel_rfl) (by kernel_rfl) (fun _ _ _ h => h) (Or.inl ⟨by rfl, ?_⟩) (by assumption) ?_
      · intro wq hSq; go_simp
      try simp only [Act.put, List.setIfInBounds_toArray, List.set_cons_zero, List.set_cons_succ]
      replace hJb := hJb.below hbc
      generalize hJJ : D.heap.size = J at *
      have hne : g1 ≠ J := by omega
      have hJ1 : W1.heap.size ≤ J := by omega
      have hg11 : W1.heap.size ≤ g1 := by omega
      have hO1z := hO1.mono (base' := 0) (Nat.zero_le _)
      clear hO1 hg1l hbcs hbs hbas hbs0 hba hbc hb_wB
    all_goals
      have hJl := hJb.lt
      have hg1l := hO1z.lt
      obtain ⟨z0, z1, z2, z3⟩ := cells4 hJb
      have f0 := hJb.fz 0
      have f1 := hJb.fz 1
      have f2 := hJb.fz 2
      have f3 := hJb.fz 3
      have hS := hJb.whole [.int .i64 (life * 1000 + next), .slice (some ⟨g1, 0, none⟩) len cp1, .int .i64 1, .slice none 0 0] rfl
      obtain ⟨U, hU⟩ : ∃ U, putAll wZ J 0 [.int .i64 (life * 1000 + next), .slice (some ⟨g1, 0, none⟩) len cp1, .int .i64 1, .slice none 0 0] = U := ⟨_, rfl⟩
      rw [hU] at hS
      simp only [putAll, Nat.zero_add, Nat.reduceAdd] at hU
      have HU := Hid.mk' hU
      clear hU
      refine last.wpAnyL_last (o := { dst := none, op := Op.store 65 (Operand.tmp 6) (Operand.tmp 38), type := 0, pos := "l11_coord.go:96", after := #[{ on := 13, ground := Ground.data }, { on := 12, ground := Ground.data }, { on := 11, ground := Ground.chain }, { on := 0, ground := Ground.phase }, { on := 1, ground := Ground.phase }, { on := 2, ground := Ground.phase }, { on := 3, ground := Ground.phase }, { on := 4, ground := Ground.phase }, { on := 5, ground := Ground.phase }, { on := 6, ground := Ground.phase }, { on := 7, ground := Ground.phase }, { on := 8, ground := Ground.phase }, { on := 9, ground := Ground.phase }, { on := 10, ground := Ground.phase }, { on := 11, ground := Ground.phase }, { on := 12, ground := Ground.phase }, { on := 13, ground := Ground.phase }], guard := none }) (by kernel_rfl) rfl (by kernel_rfl) (fun K hK => ?_)
      go_simp
      refine hK.out _ _ ?_
      clear hK K
      rw [HU.out]
      have hbU : Below W1.heap.size W1 U := hb_wZ.grown hS.2 hb_wZ.size (fun k e => by cases e; omega)
      have hJU := hS.1
      have hOU := hO1z.grown hS.2 (by simp; omega)
      have hg1U : g1 < U.heap.size := Nat.lt_of_lt_of_le hg1l.2 hS.2.size
      have hXU := HX1.out.below hbU
      clear z0 z1 z2 z3 f0 f1 f2 f3 hS HU hb_wZ hO1z hJb hJl hHeld0 hJJ
      have hXJ : X ≠ J := by omega
      have x2 := hXU.cell 2 _ rfl
      have f2 := hXU.fz (pre.length + 2)
      have hS2 := hXU.set 2 (by simp) (.int .i64 (next + 1))
      obtain ⟨U2, hU2⟩ : ∃ U2, U.setCell ⟨X, pre.length + 2, none⟩ (.int .i64 (next + 1)) = U2 := ⟨_, rfl⟩
      rw [hU2] at hS2
      have HU2 := Hid.mk' hU2
      clear hU2
      go_wp2_with fail
      rw [HU2.out]
      have hX2 : BoxIn X T pre [.int .i64 n, .int .i64 life, .int .i64 (next + 1), .slice ja jn jc, .slice la ln lc, .int .i64 sure] post U2 := hS2.1
      have hJ2 := hJU.grown hS2.2 (by simp; omega)
      have hO2 := hOU.grown hS2.2 (by simp; omega)
      have hF2 : lay.Frame [X] w U2 := (lay.Frame.of_below (hb1.trans (hbU.mono hb1.size))).grown hS2.2 (fun k e => by cases e; exact .inl (by simp))
      have hs2 := hS2.2.size
      clear x2 f2 HU2 hS2 hXU hJU hOU
      have hJs := HJ.out.keep fun k hk => hF2.block k (HJ.out.at_ k hk) (fun e => by
        rw [List.mem_singleton] at e
        subst e
        exact hXF (by rw [hFe, hF1]; exact List.mem_append.2 (.inl hk)))
      have hLs := HL.out.keep fun k hk => hF2.block k (HL.out.at_ k hk) (fun e => by
        rw [List.mem_singleton] at e
        subst e
        rw [(flat_ch.parts HL.out).2.2.1, List.append_nil] at hk
        exact hXF (by rw [hFe]; exact List.mem_append.2 (.inr hk)))
      have hdU : Below U2.heap.size U2 U2.drew := (Below.refl _ _).drew
      have hw1s : w.heap.size ≤ W1.heap.size := hb1s
      have hU1s : W1.heap.size ≤ U2.heap.size := Nat.le_trans hbU.size hs2
      have HX2 := Hid.mk' hX2
      have HJ2 := Hid.mk' hJ2
      refine last.wp_region_later (S := fun w' => BoxIn X T pre [.int .i64 n, .int .i64 life, .int .i64 (next + 1), .slice ja jn jc, .slice la ln lc, .int .i64 sure] post w' ∧ BoxIn J 65 [] [.int .i64 (life * 1000 + next), .slice (some ⟨g1, 0, none⟩) len cp1, .int .i64 1, .slice none 0 0] [] w') 10 (by kernel_rfl) ⟨hX2.below hdU, hJ2.below hdU⟩ (fun hHeld0 => ?_)
      have hJsD := hJs.below hdU
      have hLsD := hLs.below hdU
      have hO2D := hO2.below hdU
      have hF2D := hF2.below hdU
      have hX2D := hX2.below hdU
      have hJ2D := hJ2.below hdU
      have hds := hdU.size
      generalize hD2 : U2.drew = D2 at *
      clear hD2 hJs hLs hO2 hF2 hX2 hJ2
      refine last.wpAnyL_take (i := 0) (v := (.pointer (some ⟨X, pre.length, none⟩))) rfl rfl (by kernel_rfl) (by kernel_rfl) (by kernel_rfl) (by kernel_rfl) (fun _ _ _ h => h) (Or.inl ⟨by rfl, ?_⟩) (by assumption) ?_
      · intro wq hSq; go_simp
      try simp only [Act.put, List.setIfInBounds_toArray, List.set_cons_zero, List.set_cons_succ]
      refine last.wpAnyL_take (i := 1) (v := (.pointer (some ⟨X, pre.length, none⟩))) rfl rfl (by kernel_rfl) (by kernel_rfl) (by kernel_rfl) (by kernel_rfl) (fun _ _ _ h => h) (Or.inl ⟨by rfl, ?_⟩) (by assumption) ?_
      · intro wq hSq; go_simp
      try simp only [Act.put, List.setIfInBounds_toArray, List.set_cons_zero, List.set_cons_succ]
      refine last.wpAnyL_take (i := 2) (v := (.pointer (some ⟨X, pre.length, none⟩))) rfl rfl (by kernel_rfl) (by kernel_rfl) (by kernel_rfl) (by kernel_rfl) (fun _ _ _ h => h) (Or.inl ⟨by rfl, ?_⟩) (by assumption) ?_
      · intro wq hSq; go_simp
      try simp only [Act.put, List.setIfInBounds_toArray, List.set_cons_zero, List.set_cons_succ]
      refine last.wpAnyL_take (i := 3) (v := (.pointer (some ⟨X, pre.length + 3, none⟩))) rfl rfl (by kernel_rfl) (by kernel_rfl) (by kernel_rfl) (by kernel_rfl) (fun _ _ _ h => h) (Or.inl ⟨by rfl, ?_⟩) (by assumption) ?_
      · intro wq hSq; go_simp
      try simp only [Act.put, List.setIfInBounds_toArray, List.set_cons_zero, List.set_cons_succ]
      refine last.wpAnyL_take (i := 4) (v := (.slice ja jn jc)) rfl rfl (by kernel_rfl) (by kernel_rfl) (by kernel_rfl) (by kernel_rfl) (fun _ _ _ h => h) (Or.inl ⟨by rfl, ?_⟩) (by assumption) ?_
      · intro wq hSq; have q := hSq.1.cell 3 _ rfl; go_simp
      try simp only [Act.put, List.setIfInBounds_toArray, List.set_cons_zero, List.set_cons_succ]
      refine last.wpAnyL_take (i := 5) (v := (.agg #[.int .i64 (life * 1000 + next), .slice (some ⟨g1, 0, none⟩) len cp1, .int .i64 1, .slice none 0 0])) rfl rfl (by kernel_rfl) (by kernel_rfl) (by kernel_rfl) (by kernel_rfl) (fun _ _ _ h => h) (Or.inl ⟨by rfl, ?_⟩) (by assumption) ?_
      · intro wq hSq; obtain ⟨q0, q1, q2, q3⟩ := cells4 hSq.2; go_simp
      try simp only [Act.put, List.setIfInBounds_toArray, List.set_cons_zero, List.set_cons_succ]
      refine last.wpAnyL_one (i := 6) (o := { dst := some 53, op := Op.buildSlice 24 1 #[(0, Operand.tmp 52)], type := 24, pos := "l11_coord.go:98", after := #[{ on := 5, ground := Ground.data }], guard := none }) (by kernel_rfl) rfl (fun K hK => ?_)
      go_simp
      obtain ⟨V, hV⟩ : ∃ V, D2.alloc (.cells #[.int .i64 (life * 1000 + next), .slice (some ⟨g1, 0, none⟩) len cp1, .int .i64 1, .slice none 0 0] 65) = V := ⟨_, rfl⟩
      have hbv : Below D2.heap.size D2 V := by rw [← hV]; exact below_make
      have hNb : BoxIn D2.heap.size 65 [] [.int .i64 (life * 1000 + next), .slice (some ⟨g1, 0, none⟩) len cp1, .int .i64 1, .slice none 0 0] [] V := by rw [← hV]; exact boxIn_new _ _ _
      rw [hV]
      refine hK.out _ _ ?_ (fun hHeld => ?_)
      · exact ⟨hX2D.below hbv, hJ2D.below hbv⟩
      clear hK K hHeld0
      have hHeld0 := hHeld
      clear hHeld
      try simp only [Act.put, List.setIfInBounds_toArray, List.set_cons_zero, List.set_cons_succ]
      have hO3 := hO2D.below hbv
      have hxj : jobR.own V [.int .i64 (life * 1000 + next), .slice (some ⟨g1, 0, none⟩) len cp1, .int .i64 1, .slice none 0 0] (life * 1000 + next, ops, 1, []) ([g1] ++ []) := job_own.2 ⟨_, _, rfl, htw, (by decide : (Lit.int .i64 1).wf = true), (ownV_of hO3).mono (Nat.zero_le _), ⟨fun _ h => absurd h List.not_mem_nil, World.ownsRow_nil _ _ _ _⟩, rfl, by simp⟩
      have hFl : ∀ k ∈ F, k < w.heap.size := hFlt
      have hJat : ∀ k ∈ (Value.slice ja jn jc).ownBlock.toList ++ blocksOf qj, k ∈ F := fun k hk => by rw [hFe, hF1]; exact List.mem_append.2 (.inl hk)
      obtain ⟨g', cap', w4, hrun, hO4, hgr, hat4⟩ := OwnG.appRun (P := Try.prog) (z := .agg #[.int .i64 0, .slice none 0 0, .int .i64 0, .slice none 0 0]) Try.underlying24 infoJ rfl (by decide) (hJsD.below hbv) hxj (fun b hb hc => by
        rw [List.append_nil, List.mem_singleton] at hb
        have h2 := hFl b (hJat b hc)
        omega) hNb (by unfold maxLen; omega) (by omega) 24
      rw [← HJL.out] at hrun hO4
      refine last.wpAnyL_one (i := 7) (o := { dst := some 54, op := Op.call { callee := Callee.builtin Builtin.append, args := #[Operand.tmp 51, Operand.tmp 53], argTypes := #[24, 24] }, type := 24, pos := "l11_coord.go:98", after := #[{ on := 4, ground := Ground.data }, { on := 6, ground := Ground.data }], guard := none }) (by kernel_rfl) rfl (fun K hK => ?_)
      refine step_append_run rfl (.tmp 51) (.tmp 53) 24 rfl (by kernel_rfl) (by kernel_rfl) hrun ?_
      have hvs := hbv.size
      have hvb : ∀ k, (Value.slice ja jn jc).ownBlock = some k → k ∈ F := fun k e => hJat k (List.mem_append.2 (.inl (by rw [e]; simp)))
      have hX4 := (hX2D.below hbv).grown hgr (fun e => hXF (hvb X e.symm))
      have hJ4 := (hJ2D.below hbv).grown hgr (fun e => by have := hFl J (hvb J e.symm); omega)
      have hO5 := hO3.grown hgr (fun e => by have := hFl g1 (hvb g1 e.symm); omega)
      have hF4 : lay.Frame (X :: F) w w4 := ((hF2D.mono (G' := X :: F) (fun j hj => by rw [List.mem_singleton] at hj; subst hj; exact List.mem_cons_self)).below hbv).grown hgr (fun k e => .inl (List.mem_cons_of_mem _ (hvb k e)))
      have hg'b : g' ∈ F ∨ w.heap.size ≤ g' := by
        rcases hat4 with e | e
        · exact .inl (hvb g' e)
        · exact .inr (by omega)
      have hL4 := (hLsD.below hbv).keep fun k hk => hgr.block k ((hLsD.below hbv).at_ k hk) (fun e => by
        have h1 := hvb k e.symm
        rw [(flat_ch.parts HL.out).2.2.1, List.append_nil] at hk
        have h2 : k ∈ F1 := by rw [hF1]; exact List.mem_append.2 (.inl (by rw [← e]; simp))
        have h3 := HND.out
        rw [hFe] at h3
        exact (nodup_parts h3).2.2 k h2 hk)
      clear hrun
      refine hK.out _ _ ?_ (fun hHeld => ?_)
      · exact ⟨hX4, hJ4⟩
      clear hK K hHeld0
      have hHeld0 := hHeld
      clear hHeld
      try simp only [Act.put, List.setIfInBounds_toArray, List.set_cons_zero, List.set_cons_succ]
      refine last.wpAnyL_one (i := 8) (o := { dst := some 55, op := Op.nilCheck (Operand.tmp 47), type := 0, pos := "l11_coord.go:98", after := #[{ on := 0, ground := Ground.data }, { on := 0, ground := Ground.phase }, { on := 1, ground := Ground.phase }, { on := 2, ground := Ground.phase }, { on := 3, ground := Ground.phase }, { on := 4, ground := Ground.phase }, { on := 5, ground := Ground.phase }, { on := 6, ground := Ground.phase }, { on := 7, ground := Ground.phase }], guard := none }) (by kernel_rfl) rfl (fun K hK => ?_)
      go_simp
      refine hK.out _ _ ?_ (fun hHeld => ?_)
      · exact ⟨hX4, hJ4⟩
      clear hK K hHeld0
      have hHeld0 := hHeld
      clear hHeld
      try simp only [Act.put, List.setIfInBounds_toArray, List.set_cons_zero, List.set_cons_succ]
      refine last.wpAnyL_take (i := 9) (v := (.pointer (some ⟨X, pre.length + 3, none⟩))) rfl rfl (by kernel_rfl) (by kernel_rfl) (by kernel_rfl) (by kernel_rfl) (fun _ _ _ h => h) (Or.inl ⟨by rfl, ?_⟩) (by assumption) ?_
      · intro wq hSq; go_simp
      try simp only [Act.put, List.setIfInBounds_toArray, List.set_cons_zero, List.set_cons_succ]
      have x3 := hX4.cell 3 _ rfl
      have f3 := hX4.fz (pre.length + 3)
      have hS3 := hX4.set 3 (by simp) (.slice (some ⟨g', 0, none⟩) (jn + 1) cap')
      obtain ⟨U3, hU3⟩ : ∃ U3, w4.setCell ⟨X, pre.length + 3, none⟩ (.slice (some ⟨g', 0, none⟩) (jn + 1) cap') = U3 := ⟨_, rfl⟩
      rw [hU3] at hS3
      have HU3 := Hid.mk' hU3
      clear hU3
      refine last.wpAnyL_last (o := { dst := none, op := Op.store 24 (Operand.tmp 56) (Operand.tmp 54), type := 0, pos := "l11_coord.go:98", after := #[{ on := 9, ground := Ground.data }, { on := 7, ground := Ground.data }, { on := 7, ground := Ground.chain }, { on := 0, ground := Ground.phase }, { on := 1, ground := Ground.phase }, { on := 2, ground := Ground.phase }, { on := 3, ground := Ground.phase }, { on := 4, ground := Ground.phase }, { on := 5, ground := Ground.phase }, { on := 6, ground := Ground.phase }, { on := 7, ground := Ground.phase }], guard := none }) (by kernel_rfl) rfl (by kernel_rfl) (fun K hK => ?_)
      go_simp
      refine hK.out _ _ ?_
      clear hK K
      rw [HU3.out]
      have hs4 := hgr.size
      have hgX : g' ≠ X := fun e => by
        rcases hat4 with e2 | e2
        · exact hXF (e ▸ hvb g' e2)
        · omega
      have hX3 : BoxIn X T pre [.int .i64 n, .int .i64 life, .int .i64 (next + 1), .slice (some ⟨g', 0, none⟩) (jn + 1) cap', .slice la ln lc, .int .i64 sure] post U3 := hS3.1
      have hJ3 := hJ4.grown hS3.2 (by simp; omega)
      have hO6 := hO5.grown hS3.2 (by simp; omega)
      have hF3 : lay.Frame (X :: F) w U3 := hF4.grown hS3.2 (fun k e => by cases e; exact .inl List.mem_cons_self)
      have hqb : ∀ k ∈ g' :: blocksOf (qj ++ [([.int .i64 (life * 1000 + next), .slice (some ⟨g1, 0, none⟩) len cp1, .int .i64 1, .slice none 0 0], [g1] ++ [])]), (k ∈ F1 ∨ w.heap.size ≤ k) ∧ k ≠ X := fun k hk => by
        rw [blocksOf_append] at hk
        rcases List.mem_cons.1 hk with e | e
        · refine ⟨?_, fun e2 => hgX (e.symm.trans e2)⟩
          rcases hat4 with e2 | e2
          · exact .inl (by rw [hF1, e]; exact List.mem_append.2 (.inl (by rw [e2]; simp)))
          · exact .inr (by omega)
        · rcases List.mem_append.1 e with e | e
          · exact ⟨.inl (by rw [hF1]; exact List.mem_append.2 (.inr e)), fun e2 => hXF (e2 ▸ hJat k (List.mem_append.2 (.inr e)))⟩
          · have : k = g1 := by simpa [blocksOf] using e
            exact ⟨.inr (by omega), by omega⟩
      have hO7 := hO4.keep fun k hk => hS3.2.block k (hO4.at_ k hk) (fun e => (hqb k (by simpa [Value.ownBlock] using hk)).2 (Option.some.inj e))
      have hL7 := hL4.keep fun k hk => hS3.2.block k (hL4.at_ k hk) (fun e => by
        rw [(flat_ch.parts HL.out).2.2.1, List.append_nil] at hk
        have e2 := Option.some.inj e
        exact hXF (by rw [hFe, ← e2]; exact List.mem_append.2 (.inr hk)))
      have hwf3 : WfCo (n, life, next + 1, jobs ++ [(life * 1000 + next, ops, 1, [])], log, sure) := ⟨hnw, HWF.out.life, hxw, HWF.out.sure⟩
      have HO7 := Hid.mk' hO7
      have HL7 := Hid.mk' hL7
      have HF3 := Hid.mk' hF3
      have HQB := Hid.mk' hqb
      have HFE := Hid.mk' hFe
      have HX3 := Hid.mk' hX3
      have HJ3 := Hid.mk' hJ3
      clear hO7 hL7 hF3 hqb hO4 hL4 hF4 hS3 HU3 x3 f3 hX4 hJ4 hO5 hgr hat4 hHeld0 hX3 hJ3
      go_wp2_with fail
      have hdE : Below U3.heap.size U3 U3.drew := (Below.refl _ _).drew
      have HHO := Hid.mk' (fun wx (hx : Below U3.heap.size U3 wx) => spec_holds n life (next + 1) sure (some ⟨g', 0, none⟩) (jn + 1) cap' la ln lc (life * 1000 + next) 1 (some ⟨g1, 0, none⟩) len cp1 none 0 0 ops [] wx htw (hO6.below hx).sl slz_none hol8 hnw)
      refine last.wp_region_later (S := fun w' => Below U3.heap.size U3 w') 8 (by kernel_rfl) hdE (fun hHeld0 => ?_)
      generalize hD3 : U3.drew = D3 at *
      clear hD3
      refine last.wpAnyL_take (i := 0) (v := (.pointer (some ⟨X, pre.length, none⟩))) rfl rfl (by kernel_rfl) (by kernel_rfl) (by kernel_rfl) (by kernel_rfl) (fun _ _ _ h => h) (Or.inl ⟨by rfl, ?_⟩) (by assumption) ?_
      · intro wq hSq; go_simp
      try simp only [Act.put, List.setIfInBounds_toArray, List.set_cons_zero, List.set_cons_succ]
      refine last.wpAnyL_take (i := 1) (v := (.pointer (some ⟨X, pre.length, none⟩))) rfl rfl (by kernel_rfl) (by kernel_rfl) (by kernel_rfl) (by kernel_rfl) (fun _ _ _ h => h) (Or.inl ⟨by rfl, ?_⟩) (by assumption) ?_
      · intro wq hSq; go_simp
      try simp only [Act.put, List.setIfInBounds_toArray, List.set_cons_zero, List.set_cons_succ]
      refine last.wpAnyL_take (i := 2) (v := (.agg #[.int .i64 n, .int .i64 life, .int .i64 (next + 1), .slice (some ⟨g', 0, none⟩) (jn + 1) cap', .slice la ln lc, .int .i64 sure])) rfl rfl (by kernel_rfl) (by kernel_rfl) (by kernel_rfl) (by kernel_rfl) (fun _ _ _ h => h) (Or.inl ⟨by rfl, ?_⟩) (by assumption) ?_
      · intro wq hSq; obtain ⟨q0, q1, q2, q3, q4, q5⟩ := cells6p (HX3.out.below hSq); go_simp
      try simp only [Act.put, List.setIfInBounds_toArray, List.set_cons_zero, List.set_cons_succ]
      refine last.wpAnyL_take (i := 3) (v := (.agg #[.int .i64 (life * 1000 + next), .slice (some ⟨g1, 0, none⟩) len cp1, .int .i64 1, .slice none 0 0])) rfl rfl (by kernel_rfl) (by kernel_rfl) (by kernel_rfl) (by kernel_rfl) (fun _ _ _ h => h) (Or.inl ⟨by rfl, ?_⟩) (by assumption) ?_
      · intro wq hSq; obtain ⟨q0, q1, q2, q3⟩ := cells4 (HJ3.out.below hSq); go_simp
      try simp only [Act.put, List.setIfInBounds_toArray, List.set_cons_zero, List.set_cons_succ]
      refine last.wpAnyL_take (i := 5) (v := (.pointer (some ⟨J, 0, none⟩))) rfl rfl (by kernel_rfl) (by kernel_rfl) (by kernel_rfl) (by kernel_rfl) (fun _ _ _ h => h) (Or.inl ⟨by rfl, ?_⟩) (by assumption) ?_
      · intro wq hSq; go_simp
      try simp only [Act.put, List.setIfInBounds_toArray, List.set_cons_zero, List.set_cons_succ]
      refine last.wpAnyL_take (i := 6) (v := (.int .i64 (life * 1000 + next))) rfl rfl (by kernel_rfl) (by kernel_rfl) (by kernel_rfl) (by kernel_rfl) (fun _ _ _ h => h) (Or.inl ⟨by rfl, ?_⟩) (by assumption) ?_
      · intro wq hSq; obtain ⟨q0, q1, q2, q3⟩ := cells4 (HJ3.out.below hSq); go_simp
      try simp only [Act.put, List.setIfInBounds_toArray, List.set_cons_zero, List.set_cons_succ]
      refine last.wpAnyL_one (i := 4) (o := { dst := some 61, op := Op.call { callee := Callee.value (Operand.func 67), args := #[Operand.tmp 59, Operand.tmp 60], argTypes := #[27, 65] }, type := 31, pos := "l11_coord.go:99", after := #[{ on := 2, ground := Ground.data }, { on := 3, ground := Ground.data }], guard := none }) (by kernel_rfl) rfl (fun K hK => ?_)
      refine stepg.call2 rfl 67 (.tmp 59) (.tmp 60) _ rfl (fun _ _ => rfl) (.agg #[.int .i64 n, .int .i64 life, .int .i64 (next + 1), .slice (some ⟨g', 0, none⟩) (jn + 1) cap', .slice la ln lc, .int .i64 sure]) (.agg #[.int .i64 (life * 1000 + next), .slice (some ⟨g1, 0, none⟩) len cp1, .int .i64 1, .slice none 0 0]) (by kernel_rfl) (by kernel_rfl) _ (HHO.out _ hdE) ?_
      rintro e w5 ⟨gw, mw, capw, qw, rfl, hW5, hqw, hb5⟩
      refine ⟨_, rfl, ?_⟩
      have hb55 := hdE.trans (hb5.mono hdE.size)
      refine hK.out _ _ ?_ (fun hHeld => ?_)
      · exact hb55
      clear hK K hHeld0
      have hHeld0 := hHeld
      clear hHeld
      try simp only [Act.put, List.setIfInBounds_toArray, List.set_cons_zero, List.set_cons_succ]
      refine last.wpAnyL_take (i := 7) (v := (.slice (some ⟨gw, 0, none⟩) mw capw)) rfl rfl (by kernel_rfl) (by kernel_rfl) (by kernel_rfl) (by kernel_rfl) (fun _ _ _ h => h) (Or.inl ⟨by rfl, ?_⟩) (by assumption) ?_
      · intro wq hSq; go_simp
      try simp only [Act.put, List.setIfInBounds_toArray, List.set_cons_zero, List.set_cons_succ]
      have HP := Hid.mk' (begun_yes (tx := life * 1000 + next) HX3.out HO7.out HL7.out HF3.out hwf3 HQB.out HFE.out HND.out hXF hFlt hW5 (fun k hk => Nat.le_trans hdE.size (hqw k hk)) hb55)
      refine last.wpAnyL_last (o := { dst := some 5, op := Op.assign (Operand.tmp 63), type := 3, pos := "l11_coord.go:99", after := #[{ on := 6, ground := Ground.data }, { on := 7, ground := Ground.chain }, { on := 0, ground := Ground.phase }, { on := 1, ground := Ground.phase }, { on := 2, ground := Ground.phase }, { on := 3, ground := Ground.phase }, { on := 4, ground := Ground.phase }, { on := 5, ground := Ground.phase }, { on := 6, ground := Ground.phase }, { on := 7, ground := Ground.phase }], guard := none }) (by kernel_rfl) rfl (by kernel_rfl) (fun K hK => ?_)
      go_simp
      refine hK.out _ _ ?_
      clear hK K
      go_wp2_with fail
      go_returns
      exact HP.out
end Go.Proofs.Yteniflajiklffaa.cos

namespace Go.Proofs.Yteniflajiklffaa.lay
open Go Go.RowKit Go.Proofs.Yteniflajiklffaa.base
set_option linter.unusedVariables false
set_option linter.unusedSimpArgs false

section
variable {α : Type}
theorem set_at {l : List α} {i : Nat} {x : α} (h : i < l.length) : (l.set i x)[i]'(by simpa using h) = x := by simp
end
theorem OwnG.open {α : Type} {ty : TypeId} {R : Rd α} {w : World} {g n cap : Nat} {l : List α} {q : Parts} (h : OwnG ty R w (.slice (some ⟨g, 0, none⟩) n cap) l q) (i : Nat) (hi : i < l.length) :
    ∃ us F, R.own w us l[i] F ∧ (∀ j u, us[j]? = some u → w.cell? ⟨g, i * R.size + j, none⟩ = some u) ∧ (∀ k ∈ F, k ∈ blocksOf q) ∧ ∀ (w' : World) (x' : α) (G : List Nat), Frame G w w' → (∀ k ∈ G, k ∈ F) → R.own w' us x' F → OwnG ty R w' (.slice (some ⟨g, 0, none⟩) n cap) (l.set i x') q := by
  have hl := h.len
  have hn := h.nlen
  subst hn
  refine ⟨_, _, h.each i hi, fun j u hj => ?_, fun k hk => List.mem_flatMap.2 ⟨_, List.getElem_mem _, hk⟩, fun w' x' G hf hG hx => h.inner i hi x' hf hG hx⟩
  have hp := h.parts
  have hjl := (List.getElem?_eq_some_iff.1 hj).1
  rw [hp _ (List.getElem_mem _)] at hjl
  have hin : i * R.size + j < l.length * R.size := by
    have := Nat.mul_le_mul_right R.size (show i + 1 ≤ l.length from hi)
    rw [Nat.add_mul] at this; omega
  rw [h.row.cellAt (i * R.size + j) hin, cellsOf_get hp i (by omega) j hjl]
  exact hj
end Go.Proofs.Yteniflajiklffaa.lay

namespace Go.Proofs.Yteniflajiklffaa.lay
open Go Go.RowKit Go.Proofs.Yteniflajiklffaa.base
set_option linter.unusedVariables false

theorem OwnG.cellF {α : Type} {ty : TypeId} {R : Rd α} {w : World} {g n cap : Nat} {l : List α} {q : Parts} (h : OwnG ty R w (.slice (some ⟨g, 0, none⟩) n cap) l q) (i : Nat) (hi : i < l.length) (j : Nat) (hj : j < R.size) (u : Value) (x : α) (F' : List Nat) (hx : R.own w ((q[i]'(by have := h.len; omega)).1.set j u) x F') (hN : ∀ b ∈ F', b ∈ (q[i]'(by have := h.len; omega)).2 ∨ b ∉ g :: blocksOf q) :
    OwnG ty R (w.setCell ⟨g, i * R.size + j, none⟩ u) (.slice (some ⟨g, 0, none⟩) n cap) (l.set i x) (q.set i ((q[i]'(by have := h.len; omega)).1.set j u, F')) ∧ w.grownBy (w.setCell ⟨g, i * R.size + j, none⟩ u) (some g) := by
  have hn : n = l.length := h.nlen
  subst hn
  have hl := h.len
  have hqi : i < q.length := by omega
  have hr := h.row.stored (i * R.size + j) u
  have hp := h.parts
  have hpl := hp _ (List.getElem_mem hqi)
  have e0 : (cellsOf q).set (i * R.size + j) u = cellsOf (q.set i (q[i].1.set j u, F')) := by
    rw [← cellsOf_set hp i hqi (q[i].1.set j u) (by rw [List.length_set]; exact hpl) F']
    have hin : i * R.size + R.size ≤ (cellsOf q).length := by
      rw [cellsOf_length hp]
      have := Nat.mul_le_mul_right R.size (show i + 1 ≤ q.length from hqi)
      rw [Nat.add_mul] at this; omega
    refine List.ext_getElem? fun z => ?_
    rw [setAll_get _ _ _ _ (by rw [List.length_set, hpl]; exact hin), List.length_set, hpl]
    by_cases hz : i * R.size ≤ z ∧ z < i * R.size + R.size
    · rw [if_pos hz]
      obtain ⟨d, rfl⟩ : ∃ d, z = i * R.size + d := ⟨z - i * R.size, by omega⟩
      rw [Nat.add_sub_cancel_left]
      by_cases hd : d = j
      · subst hd
        rw [List.getElem?_set_self (by omega), List.getElem?_set_self (by omega)]
      · rw [List.getElem?_set_ne (by omega), List.getElem?_set_ne (by omega), cellsOf_get hp i hqi d (by omega)]
    · rw [if_neg hz, List.getElem?_set_ne (by omega)]
  rw [e0] at hr
  have hgn : ∀ b ∈ blocksOf q, b ≠ g := fun b hb e => by
    have := (nodup_parts h.nodup).2.2 g (by simp [Value.ownBlock])
    exact this (e ▸ hb)
  have hbq : ∀ k (hk : k < q.length), ∀ b ∈ q[k].2, b ∈ blocksOf q := fun k hk b hb => List.mem_flatMap.2 ⟨_, List.getElem_mem _, hb⟩
  have hFg : ∀ b ∈ F', b ≠ g := fun b hb e => by
    rcases hN b hb with e2 | e2
    · exact hgn b (hbq i hqi b e2) e
    · exact e2 (by rw [e]; exact List.mem_cons_self)
  exact ⟨h.turn i hi _ x _ hr.1 (R.ownAt hx fun k hk => hr.2.block k (R.ownLt hx k hk) fun e => hFg k hk (Option.some.inj e)) (fun k hk hne b hb => hr.2.block b (R.ownLt (h.each k hk) b hb) fun e => hgn b (hbq k (by omega) b hb) (Option.some.inj e)) (fun b hb => (hN b hb).imp_right fun e => by simpa [Value.ownBlock] using e), hr.2⟩
theorem OwnG.openF {α : Type} {ty : TypeId} {R : Rd α} {w : World} {g n cap : Nat} {l : List α} {q : Parts} (h : OwnG ty R w (.slice (some ⟨g, 0, none⟩) n cap) l q) (i : Nat) (hi : i < l.length) :
    ∃ us F, R.own w us l[i] F ∧ (∀ j u, us[j]? = some u → w.cell? ⟨g, i * R.size + j, none⟩ = some u) ∧ (∀ k ∈ F, k ∈ blocksOf q) ∧
      ∀ (j : Nat) (u : Value) (x : α) (F' : List Nat), j < R.size → R.own w (us.set j u) x F' → (∀ b ∈ F', b ∈ F ∨ b ∉ g :: blocksOf q) → ∃ q', OwnG ty R (w.setCell ⟨g, i * R.size + j, none⟩ u) (.slice (some ⟨g, 0, none⟩) n cap) (l.set i x) q' ∧ (∀ b ∈ blocksOf q', b ∈ blocksOf q ∨ b ∈ F') ∧ w.grownBy (w.setCell ⟨g, i * R.size + j, none⟩ u) (some g) ∧ ∀ z v, (us.set j u)[z]? = some v → (w.setCell ⟨g, i * R.size + j, none⟩ u).cell? ⟨g, i * R.size + z, none⟩ = some v := by
  have hl := h.len
  obtain ⟨_, _, _, h2, h3, _⟩ := h.open i hi
  refine ⟨(q[i]'(by omega)).1, (q[i]'(by omega)).2, h.each i hi, fun j u hu => ?_, fun k hk => List.mem_flatMap.2 ⟨_, List.getElem_mem _, hk⟩, fun j u x F' hj hx hN => ?_⟩
  · have := h.cells i hi j u hu
    exact this
  · have hc := h.cellF i hi j hj u x F' hx hN
    refine ⟨_, hc.1, fun b hb => ?_, hc.2, fun z v hz => ?_⟩
    · obtain ⟨p, hp, hb2⟩ := List.mem_flatMap.1 hb
      rcases List.mem_or_eq_of_mem_set hp with e | e
      · exact .inl (List.mem_flatMap.2 ⟨p, e, hb2⟩)
      · rw [e] at hb2; exact .inr hb2
    · have := hc.1.cells i (by simpa using hi) z v (by simpa using hz)
      exact this
end Go.Proofs.Yteniflajiklffaa.lay

namespace Go.Proofs.Yteniflajiklffaa.ords
open Go Go.RowKit Go.Proofs.Yteniflajiklffaa.base Go.Proofs.Yteniflajiklffaa.pairs Go.Proofs.Yteniflajiklffaa.lay Go.Proofs.Yteniflajiklffaa.cos
set_option linter.unusedVariables false
set_option linter.unusedSimpArgs false

theorem ownZ_up {w : World} {base g n cap : Nat} {zs : List Int} {v : Value} (h : OwnZV w (.slice (some ⟨g, 0, none⟩) n cap) zs) (hb : base ≤ g) (hl : zs.length = n) (hs : base ≤ w.heap.size) : OwnZ w base g n cap zs := by
  obtain ⟨h1, h2, h3⟩ := h
  refine ⟨hl, by rw [← hl]; exact h2, ?_⟩
  rcases h3 with ⟨e, _⟩ | ⟨g', c', cur, e, h4, h5⟩
  · cases e
  · cases e
    exact .inr ⟨g, _, cur, by rw [hl], hb, h5⟩
set_option maxRecDepth 100000 in
set_option maxHeartbeats 2000000 in
theorem spec_putIn (a : Option Addr) (m cp : Nat) (zs : List Int) (n : Int) (w : World) (h : SlZ w a m zs) (hn : n ∈ zs) :
    Calls Try.prog 129 #[.slice a m cp, .int .i64 n] w fun e w' => e = .returned (.slice a m cp) ∧ w' = w := by
  have HH := Hid.mk' (spec_l7Has a m cp zs n w h)
  rw [decide_eq_true hn] at HH
  clear hn h
  go_enter Try.func129, Try.ntmps129
  go_wp2_with (at_builtin; fail)
  refine HH.out.mono ?_
  rintro e w1 ⟨rfl, hw1⟩
  subst hw1
  go_wp2_with (at_builtin; fail)
  go_ret
  exact ⟨rfl, rfl⟩
set_option maxRecDepth 100000 in
set_option maxHeartbeats 2000000 in
theorem spec_putNew (a : Option Addr) (m cp : Nat) (zs : List Int) (n : Int) (w : World) (h : SlZ w a m zs) (hn : n ∉ zs) (hw : ∀ z ∈ zs, (Lit.int .i64 z).wf = true) (hcp : m ≤ cp) (ha : Asc zs) (hsz : m ≤ 1099511627776) :
    Calls Try.prog 129 #[.slice a m cp, .int .i64 n] w fun e w' =>
      ∃ g' n' cap', e = .returned (.slice (some ⟨g', 0, none⟩) n' cap') ∧ OwnZ w' w.heap.size g' n' cap' (putI zs n) ∧ Below w.heap.size w w' := by
  obtain ⟨i0, hif, hz0, hz1, hz2⟩ := info_parts infoZ
  have hl := h.1
  subst hl
  have HH := Hid.mk' (spec_l7Has a zs.length cp zs n w h)
  · rw [decide_eq_false hn] at HH
    have HN := Hid.mk' hn
    clear hn
    have hba : Below w.heap.size w (w.alloc (.cells #[] 3)) := (Below.refl _ _).alloc (Nat.le_refl _) _
    have hr0 : (w.alloc (.cells #[] 3)).ownsRow 0 3 1 (.slice (some ⟨w.heap.size, 0, none⟩) 0 0) 0 [] := World.ownsRow_made w #[] 0 (Nat.zero_le _) (Nat.zero_le _) (by simp)
    obtain ⟨g1, cap1, w2, hrun, hO0, hgr0, hloc⟩ := copy_ints w.heap.size a zs.length cp 34 hr0 (h.below hba) hw hcp hsz
    have hB1 : Below w.heap.size w w2 := hba.grown hgr0 (le_alloc _ _ (Nat.le_refl _)) (fun k e => by cases e; exact Nat.le_refl _)
    have hg1b : w.heap.size ≤ g1 := by
      rcases hloc with e | e
      · omega
      · have := hba.size; omega
    have hO1 : OwnZ w2 w.heap.size g1 zs.length cap1 zs := ownZ_up (v := .bool true) (ints_own.1 hO0).1 hg1b rfl hB1.size
    go_enter Try.func129, Try.ntmps129
    go_wp2_with (at_builtin; fail)
    refine HH.out.mono ?_
    rintro e w1 ⟨rfl, hw1⟩
    subst hw1
    have hbw2 : w1.heap.size ≤ w2.heap.size := hB1.size
    have hc3 : zs.length + 1 ≤ maxLen := by unfold maxLen; omega
    have hc4 : (zs.length + 1) * 8 ≤ 140737488355328 := by omega
    clear hO0 hgr0 hloc hr0 HH
    go_wp2_with (at_builtin; first | (refine wpList_append_run rfl _ _ 34 rfl rfl rfl hrun ?_) | (refine wpList_append_own _ rfl _ _ 34 rfl w1.heap.size 3 i0 (.int .i64 0) 1 8 Try.underlying34 hif hz0 hz1 hz2 rfl (by decide) _ _ _ rfl (hO1.2.alloc _) ⟨w2.heap.size, 0, none⟩ 1 1 (intVals [n]) rfl rfl (one_int_cells _ _ _) (intVals_oneCell _) hc3 hc4 (le_alloc _ _ hbw2) ?_))
    intro v3 w3 hown hgrow hnn
    obtain ⟨g3, cap3, hv, hO3⟩ := ownZ_app (zs := zs) rfl hnn hown
    subst hv
    have hB3 : Below w1.heap.size w1 w3 := (hB1.alloc hbw2 _).grown hgrow (le_alloc _ _ hbw2) (fun k e => by simp [Value.ownBlock] at e; have := hO1.lt; omega)
    have e0 : zs ++ [n] = gap zs zs.length n := by unfold gap; simp
    rw [e0] at hO3
    clear hown hgrow hnn hO1 hB1 e0
    go_wp2_with (at_builtin; fail)
    go_loopw [6] (fun kv wr => ∃ (k : Nat) (x : Int), k ≤ zs.length ∧ kv = .int .i64 (k : Int) ∧ (∀ y ∈ zs.drop k, n < y) ∧ OwnZ wr w1.heap.size g3 (zs.length + 1) cap3 (gap zs k x) ∧ Below w1.heap.size w1 wr) (fun kv _ => (intOf kv).toNat)
    case atStart => exact ⟨zs.length, n, Nat.le_refl _, by go_num, by simp, hO3, hB3⟩
    case round =>
      clear hO3 hB3
      obtain ⟨k, x, hk, rfl, hd, hO, hB⟩ := hrel
      have hgl := gap_length zs k x hk
      by_cases hk0 : k = 0
      · subst hk0
        have HP : Hid (putI zs n = gap zs 0 n) := putI_at zs n 0 ha HN.out hk hd (.inl rfl)
        have hfz := hO.frozen 0
        have hat := hO.at 0 (by omega)
        have R := ownZ_set hO 0 n
        rw [gap_set zs 0 x n hk, ← HP.out] at R
        have HR := Hid.mk' R
        have hlt3 := hO.lt
        generalize (gap zs 0 x)[0] = y0 at *
        clear R hO hd
        go_wp2_with (at_builtin; fail)
        go_ret
        exact ⟨g3, _, cap3, rfl, HR.out.1, hB.trans (below_grown HR.out.2 hlt3.1 hB.size)⟩
      · obtain ⟨j, rfl⟩ : ∃ j, k = j + 1 := ⟨k - 1, by omega⟩
        have hjz : j < zs.length := by omega
        have hgp := gap_prev zs (j + 1) x (by omega) hk
        simp only [Nat.add_sub_cancel] at hgp
        have hat : wr.cell? ⟨g3, j, none⟩ = some (.int .i64 zs[j]) := by
          have := hO.at j (by omega)
          rw [this]
          have e := List.getElem?_eq_getElem (l := gap zs (j + 1) x) (i := j) (by omega)
          rw [e] at hgp
          rw [Option.some.inj hgp]
        have hat2 := hO.at (j + 1) (by omega)
        have hfz := hO.frozen (j + 1)
        have hj1 : ((j + 1 : Nat) : Int) - 1 = (j : Int) := by omega
        have hjl : ((j : Nat) : Int) < ((zs.length + 1 : Nat) : Int) := by omega
        have hjl2 : ((j + 1 : Nat) : Int) < ((zs.length + 1 : Nat) : Int) := by omega
        have hpos : (0 : Int) < ((j + 1 : Nat) : Int) := by omega
        by_cases hgt : n < zs[j]
        · have R := ownZ_set hO (j + 1) zs[j]
          have hgd := gap_down zs (j + 1) (by omega) hk
          simp only [Nat.add_sub_cancel] at hgd
          rw [gap_set zs (j + 1) x zs[j] hk, hgd] at R
          have HD : Hid (∀ y ∈ zs.drop j, n < y) := by
            intro y hy
            rw [List.drop_eq_getElem_cons hjz] at hy
            rcases List.mem_cons.1 hy with rfl | hy
            · exact hgt
            · exact hd y hy
          have HR := Hid.mk' R
          have hlt3 := hO.lt
          generalize (gap zs (j + 1) x)[j + 1] = y0 at *
          generalize zs[j] = zj at *
          clear R hO hd hgp hgd
          go_wp2_with (at_builtin; fail)
          go_roundw
          case rel => exact ⟨j, zj, by omega, by go_num, HD.out, HR.out.1, hB.trans (below_grown HR.out.2 hlt3.1 hB.size)⟩
          case measure => simp [intOf]
        · have HP : Hid (putI zs n = gap zs (j + 1) n) := putI_at zs n (j + 1) ha HN.out hk hd (.inr ⟨hjz, hgt⟩)
          have R := ownZ_set hO (j + 1) n
          rw [gap_set zs (j + 1) x n hk, ← HP.out] at R
          have HR := Hid.mk' R
          have hlt3 := hO.lt
          generalize (gap zs (j + 1) x)[j + 1] = y0 at *
          generalize zs[j] = zj at *
          clear R hO hd hgp
          go_wp2_with (at_builtin; fail)
          go_ret
          exact ⟨g3, _, cap3, rfl, HR.out.1, hB.trans (below_grown HR.out.2 hlt3.1 hB.size)⟩
end Go.Proofs.Yteniflajiklffaa.ords
