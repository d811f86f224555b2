/- The specification's one who decides: a new life. -/
import Derived.Test.YtdeaiefhegjalaaBund12bh
import Derived.Test.YtdeaiefhegjalaaBund12ao
import Derived.Test.YtdeaiefhegjalaaBund12an
import Derived.BigQuiet
namespace Go.Proofs.Ytdeaiefhegjalaa.cos
open Go Go.RowKit Go.Proofs.Ytdeaiefhegjalaa.base Go.Proofs.Ytdeaiefhegjalaa.pairs Go.Proofs.Ytdeaiefhegjalaa.ords Go.Proofs.Ytdeaiefhegjalaa.lay Go.Proofs.Ytdeaiefhegjalaa.wds
set_option linter.unusedVariables false
set_option linter.unusedSimpArgs false

/-- one who decides in a block, whole or in the midst of it, and what it owns -/
structure InCo (w : World) (X : Nat) (T : TypeId) (pre post : List Value) (ja : Option Addr) (jn jc : Nat) (la : Option Addr) (ln lc : Nat) (c : Co) (F : List Nat) : Prop where
  box : BoxIn X T pre [.int .i64 c.1, .int .i64 c.2.1, .int .i64 c.2.2.1, .slice ja jn jc, .slice la ln lc, .int .i64 c.2.2.2.2.2] post w
  own : coordR.own w [.int .i64 c.1, .int .i64 c.2.1, .int .i64 c.2.2.1, .slice ja jn jc, .slice la ln lc, .int .i64 c.2.2.2.2.2] c F
  out : X ∉ F
/-- what became of one who decides in a block -/
def CoPost (w : World) (X : Nat) (T : TypeId) (pre post : List Value) (F : List Nat) (c' : Co) (w' : World) : Prop :=
  ∃ ja jn jc la ln lc F', InCo w' X T pre post ja jn jc la ln lc c' F' ∧ lay.Frame (X :: F) w w' ∧ Fresh w F F'
/-- a new life of one that is right -/
def crashS (c : Co) (keep : Int) : Co := if c.2.1 = 900 then c else (c.1, c.2.1 + 1, 0, [], c.2.2.2.2.1.take (leftC c.2.2.2.2.1.length c.2.2.2.2.2 keep), (leftC c.2.2.2.2.1.length c.2.2.2.2.2 keep : Int))
theorem crashR_eq {c : Co} {keep : Int} : crashR c keep = if coordOk c = true then crashS c keep else c := by
  unfold crashR crashS
  by_cases h : coordOk c = true
  · rw [if_pos h]
    by_cases h9 : c.2.1 = 900
    · rw [if_pos h9, if_neg (fun e => e.2 h9)]
    · rw [if_neg h9, if_pos ⟨h, h9⟩]
  · rw [if_neg h, if_neg (fun e => h e.1)]
theorem crash_post {w w10 : World} {X : Nat} {T : TypeId} {pre post : List Value} {c c' : Co} {keep : Int} {la : Option Addr} {k lc S : Nat} {F : List Nat} {ql : Parts} (he : crashS c keep = c') (hb : BoxIn X T pre [.int .i64 c'.1, .int .i64 c'.2.1, .int .i64 c'.2.2.1, .slice (some ⟨S, 0, none⟩) 0 0, .slice la k lc, .int .i64 c'.2.2.2.2.2] post w10) (hf : lay.Frame [X] w w10) (hs : w10.heap.size = S) (hwf : WfCo c') (hjn : c'.2.2.2.1 = []) (hL0 : OwnG 33 chR w (.slice la k lc) c'.2.2.2.2.1 ql) (hlF : ∀ b ∈ (Value.slice la k lc).ownBlock.toList, b ∈ F) (hXF : X ∉ F) (hFlt : ∀ b ∈ F, b < w.heap.size) : CoPost w X T pre post F (crashS c keep) (w10.alloc (.cells #[] 37)) := by
  have hbm : Below w10.heap.size w10 (w10.alloc (.cells #[] 37)) := below_make
  have hL : OwnG 33 chR w10 (.slice la k lc) c'.2.2.2.2.1 ql := hL0.keep fun b hb2 => hf.block b (hL0.at_ b hb2) (fun e => by
    rw [List.mem_singleton] at e
    rw [(flat_ch.parts hL0).2.2.1, List.append_nil] at hb2
    exact hXF (e ▸ hlF b hb2))
  have hJ : jobsR.own (w10.alloc (.cells #[] 37)) [.slice (some ⟨S, 0, none⟩) 0 0] c'.2.2.2.1 [S] := by rw [hjn, ← hs]; exact ⟨_, [], rfl, by simp [Value.ownBlock, blocksOf], lay.ownG_made _ _ _⟩
  have hl : logR.own (w10.alloc (.cells #[] 37)) [.slice la k lc] c'.2.2.2.2.1 (Value.slice la k lc).ownBlock.toList := logs_own.2 ⟨⟨ql, hL.below hbm⟩, rfl⟩
  have hXl := hb.lt
  have hlS : ∀ b ∈ (Value.slice la k lc).ownBlock.toList, b ≠ S := fun b hb2 e => by
    have h1 := hFlt b (hlF b hb2)
    have h2 := hf.size
    omega
  have hnd : ([S] ++ (Value.slice la k lc).ownBlock.toList).Nodup := nodup_mk (by simp) (logR.ownNodup hl) fun b hb2 hb3 => by
    rw [List.mem_singleton] at hb2
    exact hlS b hb3 hb2
  have hOW := coord_own.2 ⟨_, _, _, _, rfl, hwf, hJ, hl, rfl, hnd⟩
  rw [he]
  refine ⟨_, _, _, la, k, lc, [S] ++ (Value.slice la k lc).ownBlock.toList, ⟨hb.below hbm, hOW, fun e => ?_⟩, (hf.mono fun j hj => by rw [List.mem_singleton] at hj; subst hj; exact List.mem_cons_self).below hbm, fun b hb2 => ?_⟩
  · rcases List.mem_append.1 e with e | e
    · rw [List.mem_singleton] at e; omega
    · exact hXF (hlF _ e)
  · rcases List.mem_append.1 hb2 with e | e
    · rw [List.mem_singleton] at e; have := hf.size; exact .inr (by omega)
    · exact .inl (hlF b e)
set_option maxRecDepth 100000 in
set_option maxHeartbeats 1000000 in
theorem spec_l11Crash (X : Nat) (T : TypeId) (pre post : List Value) (ja : Option Addr) (jn jc : Nat) (la : Option Addr) (ln lc : Nat) (c : Co) (F : List Nat) (keep : Int) (w : World) (h : InCo w X T pre post ja jn jc la ln lc c F) (hlife : 1 ≤ c.2.1 ∧ c.2.1 ≤ 900) (hsure : 0 ≤ c.2.2.2.2.2 ∧ c.2.2.2.2.2 ≤ (c.2.2.2.2.1.length : Int)) (hll8 : c.2.2.2.2.1.length ≤ 1048576) (hkw : (Lit.int .i64 keep).wf = true) :
    Calls Try.prog 50 #[.pointer (some ⟨X, pre.length, none⟩), .int .i64 keep] w fun e w' => e = .returned (.bool (decide (c.2.1 ≠ 900))) ∧ CoPost w X T pre post F (crashS c keep) w' := by
  obtain ⟨hbx, hown, hXF⟩ := h
  have hXl := hbx.lt
  obtain ⟨x, y, F1, F2, e, hwf, hj, hl, hFe, hnd⟩ := coord_own.1 hown
  simp only [List.cons.injEq, and_true, true_and] at e
  obtain ⟨rfl, rfl⟩ := e
  obtain ⟨⟨ql, hL⟩, rfl⟩ := logs_own.1 hl
  have hlnl : ln = c.2.2.2.2.1.length := hL.sl.1.symm
  have hlcl : ln ≤ lc := by rcases hL.shape with ⟨e, h1, _⟩ | ⟨g, cap, e, h1, _⟩ <;> (cases e; try omega)
  by_cases h9 : c.2.1 = 900
  · have HE : Hid (crashS c keep = c) := if_pos h9
    have x1 := hbx.cell 1 _ rfl
    have HP : Hid (CoPost w X T pre post F c w) := ⟨ja, jn, jc, la, ln, lc, F, ⟨hbx, hown, hXF⟩, lay.Frame.refl _ _, Fresh.refl _ _⟩
    have hd9 : decide (c.2.1 ≠ 900) = false := decide_eq_false (fun e => e h9)
    rw [hd9]
    have hq9 : (c.2.1 == 900) = true := beq_iff_eq.2 h9
    clear h9 hbx hown hj hl hL hlife hd9
    generalize c.2.1 = lf at *
    go_enter Try.func50, Try.ntmps50
    go_wp2_with fail
    go_ret
    exact ⟨rfl, by rw [HE.out]; exact HP.out⟩
  obtain ⟨k, hk⟩ : ∃ k, leftC ln c.2.2.2.2.2 keep = k := ⟨_, rfl⟩
  have hkl := leftC_le (ln := ln) (sure := c.2.2.2.2.2) (keep := keep) (by omega)
  rw [hk] at hkl
  have HE : Hid (crashS c keep = (c.1, c.2.1 + 1, 0, [], c.2.2.2.2.1.take k, (k : Int))) := by show _ = _; unfold crashS; rw [if_neg h9, ← hlnl, hk]
  have hd9 : decide (c.2.1 ≠ 900) = true := decide_eq_true h9
  have hq9 : (c.2.1 == 900) = false := beq_eq_false_iff_ne.2 h9
  rw [hd9]
  clear hk hd9
  have w1 : IntKind.i64.wrap (c.2.1 + 1) = c.2.1 + 1 := by rw [IntKind.wrap_i64]; omega
  have w2 : IntKind.i64.wrap ((ln : Int) - c.2.2.2.2.2) = (ln : Int) - c.2.2.2.2.2 := by rw [IntKind.wrap_i64]; omega
  have x1 := hbx.cell 1 _ rfl
  have x4 := hbx.cell 4 _ rfl
  have x5 := hbx.cell 5 _ rfl
  have HLN := Hid.mk' hlnl
  have HSU := Hid.mk' hsure
  have HKL := Hid.mk' hkl
  have HLL := Hid.mk' hll8
  have HLF := Hid.mk' hlife
  have HLC := Hid.mk' hlcl
  have HL := Hid.mk' (hL.take k (by omega))
  have HJ := Hid.mk' hj
  have HND := Hid.mk' hnd
  have HFE := Hid.mk' hFe
  have hFlt := coordR.ownLt hown
  have HBX := Hid.mk' hbx
  clear hlnl hlcl hsure hkl hll8 hlife hL hj hl hnd hFe hown hbx
  by_cases hneg : keep < 0
  · have hz : ¬ (ln : Int) - c.2.2.2.2.2 < 0 := by have := HLN.out; have := HSU.out; omega
    go_enter Try.func50, Try.ntmps50
    go_wp2_with fail
    go_quiet (fail)
    have hb5 : BoxIn X T pre [.int .i64 c.1, .int .i64 c.2.1, .int .i64 c.2.2.1, .slice ja jn jc, .slice la ln lc, .int .i64 c.2.2.2.2.2] post (w.drewN nq) := HBX.out.below (below_drewN (Below.refl _ _) _)
    have hFr5 : lay.Frame [X] w (w.drewN nq) := lay.Frame.of_below (below_drewN (Below.refl _ _) _)
    generalize hwn : w.drewN nq = w5 at *
    clear hwn nq x1 x4 x5
    have x1 := hb5.cell 1 _ rfl
    have x4 := hb5.cell 4 _ rfl
    have x5 := hb5.cell 5 _ rfl
    go_wp2_with fail
    clear x1 x4 x5
    have hkk0 : IntKind.i64.wrap c.2.2.2.2.2 = (k : Int) := by have := HKL.out.2; have := HLN.out; have := HLL.out; have := HSU.out; rw [IntKind.wrap_i64]; omega
    have hkk : IntKind.i64.wrap (c.2.2.2.2.2 + 0) = (k : Int) := by have := HKL.out.2; have := HLN.out; have := HLL.out; have := HSU.out; rw [IntKind.wrap_i64]; omega
    have hdW : Below w5.heap.size w5 w5.drew := (Below.refl _ _).drew
    refine last.wp_region_later (S := fun w' => BoxIn X T pre [.int .i64 c.1, .int .i64 c.2.1, .int .i64 c.2.2.1, .slice ja jn jc, .slice la ln lc, .int .i64 c.2.2.2.2.2] post w') 14 (by kernel_rfl) (hb5.below hdW) (fun hHeld0 => ?_)
    have hFrD : lay.Frame [X] w w5.drew := hFr5.below hdW
    generalize hD : w5.drew = D at *
    clear hD
    refine last.wpAnyL_take (i := 0) (v := (.pointer (some ⟨X, pre.length, none⟩))) rfl rfl (by kernel_rfl) (by kernel_rfl) (by kernel_rfl) (by kernel_rfl) (fun _ _ _ h => h) (Or.inl ⟨by rfl, ?_⟩) (by assumption) ?_
    · intro wq hSq; go_simp
    try simp only [Act.put, List.setIfInBounds_toArray, List.set_cons_zero, List.set_cons_succ]
    refine last.wpAnyL_take (i := 1) (v := (.pointer (some ⟨X, pre.length, none⟩))) rfl rfl (by kernel_rfl) (by kernel_rfl) (by kernel_rfl) (by kernel_rfl) (fun _ _ _ h => h) (Or.inl ⟨by rfl, ?_⟩) (by assumption) ?_
    · intro wq hSq; go_simp
    try simp only [Act.put, List.setIfInBounds_toArray, List.set_cons_zero, List.set_cons_succ]
    refine last.wpAnyL_take (i := 2) (v := (.pointer (some ⟨X, pre.length, none⟩))) rfl rfl (by kernel_rfl) (by kernel_rfl) (by kernel_rfl) (by kernel_rfl) (fun _ _ _ h => h) (Or.inl ⟨by rfl, ?_⟩) (by assumption) ?_
    · intro wq hSq; go_simp
    try simp only [Act.put, List.setIfInBounds_toArray, List.set_cons_zero, List.set_cons_succ]
    refine last.wpAnyL_take (i := 3) (v := (.pointer (some ⟨X, pre.length + 4, none⟩))) rfl rfl (by kernel_rfl) (by kernel_rfl) (by kernel_rfl) (by kernel_rfl) (fun _ _ _ h => h) (Or.inl ⟨by rfl, ?_⟩) (by assumption) ?_
    · intro wq hSq; go_simp
    try simp only [Act.put, List.setIfInBounds_toArray, List.set_cons_zero, List.set_cons_succ]
    refine last.wpAnyL_take (i := 4) (v := (.slice la ln lc)) rfl rfl (by kernel_rfl) (by kernel_rfl) (by kernel_rfl) (by kernel_rfl) (fun _ _ _ h => h) (Or.inl ⟨by rfl, ?_⟩) (by assumption) ?_
    · intro wq hSq; have q := hSq.cell 4 _ rfl; go_simp
    try simp only [Act.put, List.setIfInBounds_toArray, List.set_cons_zero, List.set_cons_succ]
    refine last.wpAnyL_take (i := 5) (v := (.pointer (some ⟨X, pre.length, none⟩))) rfl rfl (by kernel_rfl) (by kernel_rfl) (by kernel_rfl) (by kernel_rfl) (fun _ _ _ h => h) (Or.inl ⟨by rfl, ?_⟩) (by assumption) ?_
    · intro wq hSq; go_simp
    try simp only [Act.put, List.setIfInBounds_toArray, List.set_cons_zero, List.set_cons_succ]
    refine last.wpAnyL_take (i := 6) (v := (.pointer (some ⟨X, pre.length, none⟩))) rfl rfl (by kernel_rfl) (by kernel_rfl) (by kernel_rfl) (by kernel_rfl) (fun _ _ _ h => h) (Or.inl ⟨by rfl, ?_⟩) (by assumption) ?_
    · intro wq hSq; go_simp
    try simp only [Act.put, List.setIfInBounds_toArray, List.set_cons_zero, List.set_cons_succ]
    refine last.wpAnyL_take (i := 7) (v := (.pointer (some ⟨X, pre.length + 5, none⟩))) rfl rfl (by kernel_rfl) (by kernel_rfl) (by kernel_rfl) (by kernel_rfl) (fun _ _ _ h => h) (Or.inl ⟨by rfl, ?_⟩) (by assumption) ?_
    · intro wq hSq; go_simp
    try simp only [Act.put, List.setIfInBounds_toArray, List.set_cons_zero, List.set_cons_succ]
    refine last.wpAnyL_take (i := 8) (v := (.int .i64 c.2.2.2.2.2)) rfl rfl (by kernel_rfl) (by kernel_rfl) (by kernel_rfl) (by kernel_rfl) (fun _ _ _ h => h) (Or.inl ⟨by rfl, ?_⟩) (by assumption) ?_
    · intro wq hSq; have q := hSq.cell 5 _ rfl; go_simp
    try simp only [Act.put, List.setIfInBounds_toArray, List.set_cons_zero, List.set_cons_succ]
    refine last.wpAnyL_take (i := 9) (v := (.int .i64 0)) rfl rfl (by kernel_rfl) (by kernel_rfl) (by kernel_rfl) (by kernel_rfl) (fun _ _ _ h => h) (Or.inl ⟨by rfl, ?_⟩) (by assumption) ?_
    · intro wq hSq; go_simp
    try simp only [Act.put, List.setIfInBounds_toArray, List.set_cons_zero, List.set_cons_succ]
    refine last.wpAnyL_take (i := 10) (v := (.int .i64 (k : Int))) rfl rfl (by kernel_rfl) (by kernel_rfl) (by kernel_rfl) (by kernel_rfl) (fun _ _ _ h => h) (Or.inl ⟨by rfl, ?_⟩) (by assumption) ?_
    · intro wq hSq; go_simp
    try simp only [Act.put, List.setIfInBounds_toArray, List.set_cons_zero, List.set_cons_succ]
    refine last.wpAnyL_take (i := 11) (v := (.slice la k lc)) rfl rfl (by kernel_rfl) (by kernel_rfl) (by kernel_rfl) (by kernel_rfl) (fun _ _ _ h => h) (Or.inl ⟨by rfl, ?_⟩) (by assumption) ?_
    · intro wq hSq; have q1 : ¬ lc < k := by (have := HKL.out.1; have := HLC.out; omega)
      go_simp
    try simp only [Act.put, List.setIfInBounds_toArray, List.set_cons_zero, List.set_cons_succ]
    refine last.wpAnyL_one (i := 12) (o := { dst := some 46, op := Op.nilCheck (Operand.tmp 34), type := 0, pos := "l11_coord.go:206", after := #[{ on := 0, ground := Ground.data }, { on := 0, ground := Ground.phase }, { on := 1, ground := Ground.phase }, { on := 2, ground := Ground.phase }, { on := 3, ground := Ground.phase }, { on := 4, ground := Ground.phase }, { on := 5, ground := Ground.phase }, { on := 6, ground := Ground.phase }, { on := 7, ground := Ground.phase }, { on := 8, ground := Ground.phase }, { on := 9, ground := Ground.phase }, { on := 10, ground := Ground.phase }, { on := 11, ground := Ground.phase }], guard := none }) (by kernel_rfl) rfl (fun K hK => ?_)
    go_simp
    refine hK.out _ _ ?_ (fun hHeld => ?_)
    · exact hHeld0
    clear hK K hHeld0
    have hHeld0 := hHeld
    clear hHeld
    try simp only [Act.put, List.setIfInBounds_toArray, List.set_cons_zero, List.set_cons_succ]
    refine last.wpAnyL_take (i := 13) (v := (.pointer (some ⟨X, pre.length + 4, none⟩))) rfl rfl (by kernel_rfl) (by kernel_rfl) (by kernel_rfl) (by kernel_rfl) (fun _ _ _ h => h) (Or.inl ⟨by rfl, ?_⟩) (by assumption) ?_
    · intro wq hSq; go_simp
    try simp only [Act.put, List.setIfInBounds_toArray, List.set_cons_zero, List.set_cons_succ]
    have n4 := hHeld0.set 4 (by simp) (.slice la k lc)
    have u4 := hHeld0.cell 4 _ rfl
    have v4 := hHeld0.fz (pre.length + 4)
    refine last.wpAnyL_last (o := { dst := none, op := Op.store 25 (Operand.tmp 47) (Operand.tmp 45), type := 0, pos := "l11_coord.go:206", after := #[{ on := 13, ground := Ground.data }, { on := 11, ground := Ground.data }, { on := 0, ground := Ground.phase }, { on := 1, ground := Ground.phase }, { on := 2, ground := Ground.phase }, { on := 3, ground := Ground.phase }, { on := 4, ground := Ground.phase }, { on := 5, ground := Ground.phase }, { on := 6, ground := Ground.phase }, { on := 7, ground := Ground.phase }, { on := 8, ground := Ground.phase }, { on := 9, ground := Ground.phase }, { on := 10, ground := Ground.phase }, { on := 11, ground := Ground.phase }], guard := none }) (by kernel_rfl) rfl (by kernel_rfl) (fun K hK => ?_)
    go_simp
    refine hK.out _ _ ?_
    clear hK K
    have hB6 : BoxIn X T pre [.int .i64 c.1, .int .i64 c.2.1, .int .i64 c.2.2.1, .slice ja jn jc, .slice la k lc, .int .i64 c.2.2.2.2.2] post _ := n4.1
    have g4 := n4.2
    have hFr6 := hFrD.grown g4 (fun b e => by cases e; exact .inl (by simp))
    have hs6 : D.heap.size ≤ (D.setCell ⟨X, pre.length + 4, none⟩ (.slice la k lc)).heap.size := g4.size
    clear n4 u4 v4 hHeld0 g4
    generalize hw6 : D.setCell ⟨X, pre.length + 4, none⟩ (.slice la k lc) = w6 at *
    clear hw6
    have q4 := hB6.cell 4 _ rfl
    have q5 := hB6.cell 5 _ rfl
    have f5 := hB6.fz (pre.length + 5)
    have n5 := hB6.set 5 (by simp) (.int .i64 (k : Int))
    have hB7 : BoxIn X T pre [.int .i64 c.1, .int .i64 c.2.1, .int .i64 c.2.2.1, .slice ja jn jc, .slice la k lc, .int .i64 (k : Int)] post _ := n5.1
    have q1 := hB7.cell 1 _ rfl
    have f1 := hB7.fz (pre.length + 1)
    have n1 := hB7.set 1 (by simp) (.int .i64 (c.2.1 + 1))
    have hB8 : BoxIn X T pre [.int .i64 c.1, .int .i64 (c.2.1 + 1), .int .i64 c.2.2.1, .slice ja jn jc, .slice la k lc, .int .i64 (k : Int)] post _ := n1.1
    have q2 := hB8.cell 2 _ rfl
    have f2 := hB8.fz (pre.length + 2)
    have n2 := hB8.set 2 (by simp) (.int .i64 0)
    have hB9 : BoxIn X T pre [.int .i64 c.1, .int .i64 (c.2.1 + 1), .int .i64 0, .slice ja jn jc, .slice la k lc, .int .i64 (k : Int)] post _ := n2.1
    have q3 := hB9.cell 3 _ rfl
    have f3 := hB9.fz (pre.length + 3)
    have n3 := hB9.set 3 (by simp) (.slice (some ⟨w6.heap.size, 0, none⟩) 0 0)
    have hB10 : BoxIn X T pre [.int .i64 c.1, .int .i64 (c.2.1 + 1), .int .i64 0, .slice (some ⟨w6.heap.size, 0, none⟩) 0 0, .slice la k lc, .int .i64 (k : Int)] post _ := n3.1
    have gA := grownBy_trans (grownBy_trans (grownBy_trans n5.2 n1.2) n2.2) n3.2
    have hFr10 := hFr6.grown gA (fun b e => by cases e; exact .inl (by simp))
    have hsz10 : ((((w6.setCell ⟨X, pre.length + 5, none⟩ (.int .i64 (k : Int))).setCell ⟨X, pre.length + 1, none⟩ (.int .i64 (c.2.1 + 1))).setCell ⟨X, pre.length + 2, none⟩ (.int .i64 0)).setCell ⟨X, pre.length + 3, none⟩ (.slice (some ⟨w6.heap.size, 0, none⟩) 0 0)).heap.size = w6.heap.size := by simp
    have HPOST := Hid.mk' (crash_post (w := w) HE.out hB10 hFr10 hsz10 (by have := HLF.out; have := HSU.out; have := HKL.out; have := HLN.out; have := HLL.out; exact ⟨hwf.n, WalkArith.wf_i64 (by simp only []; omega), (by show (Lit.int .i64 0).wf = true; decide), WalkArith.wf_i64 (by simp only []; omega)⟩) rfl HL.out (fun b hb => by rw [HFE.out]; exact List.mem_append.2 (.inr (by cases la with | none => exact hb | some a => exact hb))) hXF hFlt)
    have hkb : (k : Int) ≤ 1048576 := by have := HKL.out.1; have := HLN.out; have := HLL.out; omega
    have hXw := hB6.lt
    have e1 := hB6.cell 1 _ rfl
    have e2 := hB6.cell 2 _ rfl
    have e3 := hB6.cell 3 _ rfl
    have d1 := hB6.fz (pre.length + 1)
    have d2 := hB6.fz (pre.length + 2)
    have d3 := hB6.fz (pre.length + 3)
    clear hB6 hB7 hB8 hB9 hB10 n5 n1 n2 n3 gA hFr10 hFr6 hsz10 hkk hdW w2 h9 hq9
    generalize pre.length = p at *
    go_wp2_with fail
    go_ret
    exact ⟨rfl, HPOST.out⟩
  by_cases hgt : (ln : Int) - c.2.2.2.2.2 < keep
  · skip
    go_enter Try.func50, Try.ntmps50
    go_wp2_with fail
    go_quiet (fail)
    have hb5 : BoxIn X T pre [.int .i64 c.1, .int .i64 c.2.1, .int .i64 c.2.2.1, .slice ja jn jc, .slice la ln lc, .int .i64 c.2.2.2.2.2] post (w.drewN nq) := HBX.out.below (below_drewN (Below.refl _ _) _)
    have hFr5 : lay.Frame [X] w (w.drewN nq) := lay.Frame.of_below (below_drewN (Below.refl _ _) _)
    generalize hwn : w.drewN nq = w5 at *
    clear hwn nq x1 x4 x5
    have x1 := hb5.cell 1 _ rfl
    have x4 := hb5.cell 4 _ rfl
    have x5 := hb5.cell 5 _ rfl
    go_wp2_with fail
    go_quiet (fail)
    have hb9 : BoxIn X T pre [.int .i64 c.1, .int .i64 c.2.1, .int .i64 c.2.2.1, .slice ja jn jc, .slice la ln lc, .int .i64 c.2.2.2.2.2] post (w5.drewN nq) := hb5.below (below_drewN (Below.refl _ _) _)
    have hFr9 : lay.Frame [X] w (w5.drewN nq) := hFr5.below (below_drewN (Below.refl _ _) _)
    generalize hwn : w5.drewN nq = w9 at *
    clear hwn nq x1 x4 x5
    have x1 := hb9.cell 1 _ rfl
    have x4 := hb9.cell 4 _ rfl
    have x5 := hb9.cell 5 _ rfl
    go_wp2_with fail
    clear x1 x4 x5
    have hkk : IntKind.i64.wrap (c.2.2.2.2.2 + ((ln : Int) - c.2.2.2.2.2)) = (k : Int) := by have := HKL.out.2; have := HLN.out; have := HLL.out; have := HSU.out; rw [IntKind.wrap_i64]; omega
    have hdW : Below w9.heap.size w9 w9.drew := (Below.refl _ _).drew
    refine last.wp_region_later (S := fun w' => BoxIn X T pre [.int .i64 c.1, .int .i64 c.2.1, .int .i64 c.2.2.1, .slice ja jn jc, .slice la ln lc, .int .i64 c.2.2.2.2.2] post w') 14 (by kernel_rfl) (hb9.below hdW) (fun hHeld0 => ?_)
    have hFrD : lay.Frame [X] w w9.drew := hFr9.below hdW
    generalize hD : w9.drew = D at *
    clear hD
    refine last.wpAnyL_take (i := 0) (v := (.pointer (some ⟨X, pre.length, none⟩))) rfl rfl (by kernel_rfl) (by kernel_rfl) (by kernel_rfl) (by kernel_rfl) (fun _ _ _ h => h) (Or.inl ⟨by rfl, ?_⟩) (by assumption) ?_
    · intro wq hSq; go_simp
    try simp only [Act.put, List.setIfInBounds_toArray, List.set_cons_zero, List.set_cons_succ]
    refine last.wpAnyL_take (i := 1) (v := (.pointer (some ⟨X, pre.length, none⟩))) rfl rfl (by kernel_rfl) (by kernel_rfl) (by kernel_rfl) (by kernel_rfl) (fun _ _ _ h => h) (Or.inl ⟨by rfl, ?_⟩) (by assumption) ?_
    · intro wq hSq; go_simp
    try simp only [Act.put, List.setIfInBounds_toArray, List.set_cons_zero, List.set_cons_succ]
    refine last.wpAnyL_take (i := 2) (v := (.pointer (some ⟨X, pre.length, none⟩))) rfl rfl (by kernel_rfl) (by kernel_rfl) (by kernel_rfl) (by kernel_rfl) (fun _ _ _ h => h) (Or.inl ⟨by rfl, ?_⟩) (by assumption) ?_
    · intro wq hSq; go_simp
    try simp only [Act.put, List.setIfInBounds_toArray, List.set_cons_zero, List.set_cons_succ]
    refine last.wpAnyL_take (i := 3) (v := (.pointer (some ⟨X, pre.length + 4, none⟩))) rfl rfl (by kernel_rfl) (by kernel_rfl) (by kernel_rfl) (by kernel_rfl) (fun _ _ _ h => h) (Or.inl ⟨by rfl, ?_⟩) (by assumption) ?_
    · intro wq hSq; go_simp
    try simp only [Act.put, List.setIfInBounds_toArray, List.set_cons_zero, List.set_cons_succ]
    refine last.wpAnyL_take (i := 4) (v := (.slice la ln lc)) rfl rfl (by kernel_rfl) (by kernel_rfl) (by kernel_rfl) (by kernel_rfl) (fun _ _ _ h => h) (Or.inl ⟨by rfl, ?_⟩) (by assumption) ?_
    · intro wq hSq; have q := hSq.cell 4 _ rfl; go_simp
    try simp only [Act.put, List.setIfInBounds_toArray, List.set_cons_zero, List.set_cons_succ]
    refine last.wpAnyL_take (i := 5) (v := (.pointer (some ⟨X, pre.length, none⟩))) rfl rfl (by kernel_rfl) (by kernel_rfl) (by kernel_rfl) (by kernel_rfl) (fun _ _ _ h => h) (Or.inl ⟨by rfl, ?_⟩) (by assumption) ?_
    · intro wq hSq; go_simp
    try simp only [Act.put, List.setIfInBounds_toArray, List.set_cons_zero, List.set_cons_succ]
    refine last.wpAnyL_take (i := 6) (v := (.pointer (some ⟨X, pre.length, none⟩))) rfl rfl (by kernel_rfl) (by kernel_rfl) (by kernel_rfl) (by kernel_rfl) (fun _ _ _ h => h) (Or.inl ⟨by rfl, ?_⟩) (by assumption) ?_
    · intro wq hSq; go_simp
    try simp only [Act.put, List.setIfInBounds_toArray, List.set_cons_zero, List.set_cons_succ]
    refine last.wpAnyL_take (i := 7) (v := (.pointer (some ⟨X, pre.length + 5, none⟩))) rfl rfl (by kernel_rfl) (by kernel_rfl) (by kernel_rfl) (by kernel_rfl) (fun _ _ _ h => h) (Or.inl ⟨by rfl, ?_⟩) (by assumption) ?_
    · intro wq hSq; go_simp
    try simp only [Act.put, List.setIfInBounds_toArray, List.set_cons_zero, List.set_cons_succ]
    refine last.wpAnyL_take (i := 8) (v := (.int .i64 c.2.2.2.2.2)) rfl rfl (by kernel_rfl) (by kernel_rfl) (by kernel_rfl) (by kernel_rfl) (fun _ _ _ h => h) (Or.inl ⟨by rfl, ?_⟩) (by assumption) ?_
    · intro wq hSq; have q := hSq.cell 5 _ rfl; go_simp
    try simp only [Act.put, List.setIfInBounds_toArray, List.set_cons_zero, List.set_cons_succ]
    refine last.wpAnyL_take (i := 9) (v := (.int .i64 ((ln : Int) - c.2.2.2.2.2))) rfl rfl (by kernel_rfl) (by kernel_rfl) (by kernel_rfl) (by kernel_rfl) (fun _ _ _ h => h) (Or.inl ⟨by rfl, ?_⟩) (by assumption) ?_
    · intro wq hSq; go_simp
    try simp only [Act.put, List.setIfInBounds_toArray, List.set_cons_zero, List.set_cons_succ]
    refine last.wpAnyL_take (i := 10) (v := (.int .i64 (k : Int))) rfl rfl (by kernel_rfl) (by kernel_rfl) (by kernel_rfl) (by kernel_rfl) (fun _ _ _ h => h) (Or.inl ⟨by rfl, ?_⟩) (by assumption) ?_
    · intro wq hSq; go_simp
    try simp only [Act.put, List.setIfInBounds_toArray, List.set_cons_zero, List.set_cons_succ]
    refine last.wpAnyL_take (i := 11) (v := (.slice la k lc)) rfl rfl (by kernel_rfl) (by kernel_rfl) (by kernel_rfl) (by kernel_rfl) (fun _ _ _ h => h) (Or.inl ⟨by rfl, ?_⟩) (by assumption) ?_
    · intro wq hSq; have q1 : ¬ lc < k := by (have := HKL.out.1; have := HLC.out; omega)
      go_simp
    try simp only [Act.put, List.setIfInBounds_toArray, List.set_cons_zero, List.set_cons_succ]
    refine last.wpAnyL_one (i := 12) (o := { dst := some 46, op := Op.nilCheck (Operand.tmp 34), type := 0, pos := "l11_coord.go:206", after := #[{ on := 0, ground := Ground.data }, { on := 0, ground := Ground.phase }, { on := 1, ground := Ground.phase }, { on := 2, ground := Ground.phase }, { on := 3, ground := Ground.phase }, { on := 4, ground := Ground.phase }, { on := 5, ground := Ground.phase }, { on := 6, ground := Ground.phase }, { on := 7, ground := Ground.phase }, { on := 8, ground := Ground.phase }, { on := 9, ground := Ground.phase }, { on := 10, ground := Ground.phase }, { on := 11, ground := Ground.phase }], guard := none }) (by kernel_rfl) rfl (fun K hK => ?_)
    go_simp
    refine hK.out _ _ ?_ (fun hHeld => ?_)
    · exact hHeld0
    clear hK K hHeld0
    have hHeld0 := hHeld
    clear hHeld
    try simp only [Act.put, List.setIfInBounds_toArray, List.set_cons_zero, List.set_cons_succ]
    refine last.wpAnyL_take (i := 13) (v := (.pointer (some ⟨X, pre.length + 4, none⟩))) rfl rfl (by kernel_rfl) (by kernel_rfl) (by kernel_rfl) (by kernel_rfl) (fun _ _ _ h => h) (Or.inl ⟨by rfl, ?_⟩) (by assumption) ?_
    · intro wq hSq; go_simp
    try simp only [Act.put, List.setIfInBounds_toArray, List.set_cons_zero, List.set_cons_succ]
    have n4 := hHeld0.set 4 (by simp) (.slice la k lc)
    have u4 := hHeld0.cell 4 _ rfl
    have v4 := hHeld0.fz (pre.length + 4)
    refine last.wpAnyL_last (o := { dst := none, op := Op.store 25 (Operand.tmp 47) (Operand.tmp 45), type := 0, pos := "l11_coord.go:206", after := #[{ on := 13, ground := Ground.data }, { on := 11, ground := Ground.data }, { on := 0, ground := Ground.phase }, { on := 1, ground := Ground.phase }, { on := 2, ground := Ground.phase }, { on := 3, ground := Ground.phase }, { on := 4, ground := Ground.phase }, { on := 5, ground := Ground.phase }, { on := 6, ground := Ground.phase }, { on := 7, ground := Ground.phase }, { on := 8, ground := Ground.phase }, { on := 9, ground := Ground.phase }, { on := 10, ground := Ground.phase }, { on := 11, ground := Ground.phase }], guard := none }) (by kernel_rfl) rfl (by kernel_rfl) (fun K hK => ?_)
    go_simp
    refine hK.out _ _ ?_
    clear hK K
    have hB6 : BoxIn X T pre [.int .i64 c.1, .int .i64 c.2.1, .int .i64 c.2.2.1, .slice ja jn jc, .slice la k lc, .int .i64 c.2.2.2.2.2] post _ := n4.1
    have g4 := n4.2
    have hFr6 := hFrD.grown g4 (fun b e => by cases e; exact .inl (by simp))
    have hs6 : D.heap.size ≤ (D.setCell ⟨X, pre.length + 4, none⟩ (.slice la k lc)).heap.size := g4.size
    clear n4 u4 v4 hHeld0 g4
    generalize hw6 : D.setCell ⟨X, pre.length + 4, none⟩ (.slice la k lc) = w6 at *
    clear hw6
    have q4 := hB6.cell 4 _ rfl
    have q5 := hB6.cell 5 _ rfl
    have f5 := hB6.fz (pre.length + 5)
    have n5 := hB6.set 5 (by simp) (.int .i64 (k : Int))
    have hB7 : BoxIn X T pre [.int .i64 c.1, .int .i64 c.2.1, .int .i64 c.2.2.1, .slice ja jn jc, .slice la k lc, .int .i64 (k : Int)] post _ := n5.1
    have q1 := hB7.cell 1 _ rfl
    have f1 := hB7.fz (pre.length + 1)
    have n1 := hB7.set 1 (by simp) (.int .i64 (c.2.1 + 1))
    have hB8 : BoxIn X T pre [.int .i64 c.1, .int .i64 (c.2.1 + 1), .int .i64 c.2.2.1, .slice ja jn jc, .slice la k lc, .int .i64 (k : Int)] post _ := n1.1
    have q2 := hB8.cell 2 _ rfl
    have f2 := hB8.fz (pre.length + 2)
    have n2 := hB8.set 2 (by simp) (.int .i64 0)
    have hB9 : BoxIn X T pre [.int .i64 c.1, .int .i64 (c.2.1 + 1), .int .i64 0, .slice ja jn jc, .slice la k lc, .int .i64 (k : Int)] post _ := n2.1
    have q3 := hB9.cell 3 _ rfl
    have f3 := hB9.fz (pre.length + 3)
    have n3 := hB9.set 3 (by simp) (.slice (some ⟨w6.heap.size, 0, none⟩) 0 0)
    have hB10 : BoxIn X T pre [.int .i64 c.1, .int .i64 (c.2.1 + 1), .int .i64 0, .slice (some ⟨w6.heap.size, 0, none⟩) 0 0, .slice la k lc, .int .i64 (k : Int)] post _ := n3.1
    have gA := grownBy_trans (grownBy_trans (grownBy_trans n5.2 n1.2) n2.2) n3.2
    have hFr10 := hFr6.grown gA (fun b e => by cases e; exact .inl (by simp))
    have hsz10 : ((((w6.setCell ⟨X, pre.length + 5, none⟩ (.int .i64 (k : Int))).setCell ⟨X, pre.length + 1, none⟩ (.int .i64 (c.2.1 + 1))).setCell ⟨X, pre.length + 2, none⟩ (.int .i64 0)).setCell ⟨X, pre.length + 3, none⟩ (.slice (some ⟨w6.heap.size, 0, none⟩) 0 0)).heap.size = w6.heap.size := by simp
    have HPOST := Hid.mk' (crash_post (w := w) HE.out hB10 hFr10 hsz10 (by have := HLF.out; have := HSU.out; have := HKL.out; have := HLN.out; have := HLL.out; exact ⟨hwf.n, WalkArith.wf_i64 (by simp only []; omega), (by show (Lit.int .i64 0).wf = true; decide), WalkArith.wf_i64 (by simp only []; omega)⟩) rfl HL.out (fun b hb => by rw [HFE.out]; exact List.mem_append.2 (.inr (by cases la with | none => exact hb | some a => exact hb))) hXF hFlt)
    have hkb : (k : Int) ≤ 1048576 := by have := HKL.out.1; have := HLN.out; have := HLL.out; omega
    have hXw := hB6.lt
    have e1 := hB6.cell 1 _ rfl
    have e2 := hB6.cell 2 _ rfl
    have e3 := hB6.cell 3 _ rfl
    have d1 := hB6.fz (pre.length + 1)
    have d2 := hB6.fz (pre.length + 2)
    have d3 := hB6.fz (pre.length + 3)
    clear hB6 hB7 hB8 hB9 hB10 n5 n1 n2 n3 gA hFr10 hFr6 hsz10 hkk hdW w2 h9 hq9
    generalize pre.length = p at *
    go_wp2_with fail
    go_ret
    exact ⟨rfl, HPOST.out⟩
  · skip
    go_enter Try.func50, Try.ntmps50
    go_wp2_with fail
    go_quiet (fail)
    have hb5 : BoxIn X T pre [.int .i64 c.1, .int .i64 c.2.1, .int .i64 c.2.2.1, .slice ja jn jc, .slice la ln lc, .int .i64 c.2.2.2.2.2] post (w.drewN nq) := HBX.out.below (below_drewN (Below.refl _ _) _)
    have hFr5 : lay.Frame [X] w (w.drewN nq) := lay.Frame.of_below (below_drewN (Below.refl _ _) _)
    generalize hwn : w.drewN nq = w5 at *
    clear hwn nq x1 x4 x5
    have x1 := hb5.cell 1 _ rfl
    have x4 := hb5.cell 4 _ rfl
    have x5 := hb5.cell 5 _ rfl
    go_wp2_with fail
    clear x1 x4 x5
    have hkk : IntKind.i64.wrap (c.2.2.2.2.2 + keep) = (k : Int) := by have := HKL.out.2; have := HLN.out; have := HLL.out; have := HSU.out; rw [IntKind.wrap_i64]; omega
    have hdW : Below w5.heap.size w5 w5.drew := (Below.refl _ _).drew
    refine last.wp_region_later (S := fun w' => BoxIn X T pre [.int .i64 c.1, .int .i64 c.2.1, .int .i64 c.2.2.1, .slice ja jn jc, .slice la ln lc, .int .i64 c.2.2.2.2.2] post w') 14 (by kernel_rfl) (hb5.below hdW) (fun hHeld0 => ?_)
    have hFrD : lay.Frame [X] w w5.drew := hFr5.below hdW
    generalize hD : w5.drew = D at *
    clear hD
    refine last.wpAnyL_take (i := 0) (v := (.pointer (some ⟨X, pre.length, none⟩))) rfl rfl (by kernel_rfl) (by kernel_rfl) (by kernel_rfl) (by kernel_rfl) (fun _ _ _ h => h) (Or.inl ⟨by rfl, ?_⟩) (by assumption) ?_
    · intro wq hSq; go_simp
    try simp only [Act.put, List.setIfInBounds_toArray, List.set_cons_zero, List.set_cons_succ]
    refine last.wpAnyL_take (i := 1) (v := (.pointer (some ⟨X, pre.length, none⟩))) rfl rfl (by kernel_rfl) (by kernel_rfl) (by kernel_rfl) (by kernel_rfl) (fun _ _ _ h => h) (Or.inl ⟨by rfl, ?_⟩) (by assumption) ?_
    · intro wq hSq; go_simp
    try simp only [Act.put, List.setIfInBounds_toArray, List.set_cons_zero, List.set_cons_succ]
    refine last.wpAnyL_take (i := 2) (v := (.pointer (some ⟨X, pre.length, none⟩))) rfl rfl (by kernel_rfl) (by kernel_rfl) (by kernel_rfl) (by kernel_rfl) (fun _ _ _ h => h) (Or.inl ⟨by rfl, ?_⟩) (by assumption) ?_
    · intro wq hSq; go_simp
    try simp only [Act.put, List.setIfInBounds_toArray, List.set_cons_zero, List.set_cons_succ]
    refine last.wpAnyL_take (i := 3) (v := (.pointer (some ⟨X, pre.length + 4, none⟩))) rfl rfl (by kernel_rfl) (by kernel_rfl) (by kernel_rfl) (by kernel_rfl) (fun _ _ _ h => h) (Or.inl ⟨by rfl, ?_⟩) (by assumption) ?_
    · intro wq hSq; go_simp
    try simp only [Act.put, List.setIfInBounds_toArray, List.set_cons_zero, List.set_cons_succ]
    refine last.wpAnyL_take (i := 4) (v := (.slice la ln lc)) rfl rfl (by kernel_rfl) (by kernel_rfl) (by kernel_rfl) (by kernel_rfl) (fun _ _ _ h => h) (Or.inl ⟨by rfl, ?_⟩) (by assumption) ?_
    · intro wq hSq; have q := hSq.cell 4 _ rfl; go_simp
    try simp only [Act.put, List.setIfInBounds_toArray, List.set_cons_zero, List.set_cons_succ]
    refine last.wpAnyL_take (i := 5) (v := (.pointer (some ⟨X, pre.length, none⟩))) rfl rfl (by kernel_rfl) (by kernel_rfl) (by kernel_rfl) (by kernel_rfl) (fun _ _ _ h => h) (Or.inl ⟨by rfl, ?_⟩) (by assumption) ?_
    · intro wq hSq; go_simp
    try simp only [Act.put, List.setIfInBounds_toArray, List.set_cons_zero, List.set_cons_succ]
    refine last.wpAnyL_take (i := 6) (v := (.pointer (some ⟨X, pre.length, none⟩))) rfl rfl (by kernel_rfl) (by kernel_rfl) (by kernel_rfl) (by kernel_rfl) (fun _ _ _ h => h) (Or.inl ⟨by rfl, ?_⟩) (by assumption) ?_
    · intro wq hSq; go_simp
    try simp only [Act.put, List.setIfInBounds_toArray, List.set_cons_zero, List.set_cons_succ]
    refine last.wpAnyL_take (i := 7) (v := (.pointer (some ⟨X, pre.length + 5, none⟩))) rfl rfl (by kernel_rfl) (by kernel_rfl) (by kernel_rfl) (by kernel_rfl) (fun _ _ _ h => h) (Or.inl ⟨by rfl, ?_⟩) (by assumption) ?_
    · intro wq hSq; go_simp
    try simp only [Act.put, List.setIfInBounds_toArray, List.set_cons_zero, List.set_cons_succ]
    refine last.wpAnyL_take (i := 8) (v := (.int .i64 c.2.2.2.2.2)) rfl rfl (by kernel_rfl) (by kernel_rfl) (by kernel_rfl) (by kernel_rfl) (fun _ _ _ h => h) (Or.inl ⟨by rfl, ?_⟩) (by assumption) ?_
    · intro wq hSq; have q := hSq.cell 5 _ rfl; go_simp
    try simp only [Act.put, List.setIfInBounds_toArray, List.set_cons_zero, List.set_cons_succ]
    refine last.wpAnyL_take (i := 9) (v := (.int .i64 keep)) rfl rfl (by kernel_rfl) (by kernel_rfl) (by kernel_rfl) (by kernel_rfl) (fun _ _ _ h => h) (Or.inl ⟨by rfl, ?_⟩) (by assumption) ?_
    · intro wq hSq; go_simp
    try simp only [Act.put, List.setIfInBounds_toArray, List.set_cons_zero, List.set_cons_succ]
    refine last.wpAnyL_take (i := 10) (v := (.int .i64 (k : Int))) rfl rfl (by kernel_rfl) (by kernel_rfl) (by kernel_rfl) (by kernel_rfl) (fun _ _ _ h => h) (Or.inl ⟨by rfl, ?_⟩) (by assumption) ?_
    · intro wq hSq; go_simp
    try simp only [Act.put, List.setIfInBounds_toArray, List.set_cons_zero, List.set_cons_succ]
    refine last.wpAnyL_take (i := 11) (v := (.slice la k lc)) rfl rfl (by kernel_rfl) (by kernel_rfl) (by kernel_rfl) (by kernel_rfl) (fun _ _ _ h => h) (Or.inl ⟨by rfl, ?_⟩) (by assumption) ?_
    · intro wq hSq; have q1 : ¬ lc < k := by (have := HKL.out.1; have := HLC.out; omega)
      go_simp
    try simp only [Act.put, List.setIfInBounds_toArray, List.set_cons_zero, List.set_cons_succ]
    refine last.wpAnyL_one (i := 12) (o := { dst := some 46, op := Op.nilCheck (Operand.tmp 34), type := 0, pos := "l11_coord.go:206", after := #[{ on := 0, ground := Ground.data }, { on := 0, ground := Ground.phase }, { on := 1, ground := Ground.phase }, { on := 2, ground := Ground.phase }, { on := 3, ground := Ground.phase }, { on := 4, ground := Ground.phase }, { on := 5, ground := Ground.phase }, { on := 6, ground := Ground.phase }, { on := 7, ground := Ground.phase }, { on := 8, ground := Ground.phase }, { on := 9, ground := Ground.phase }, { on := 10, ground := Ground.phase }, { on := 11, ground := Ground.phase }], guard := none }) (by kernel_rfl) rfl (fun K hK => ?_)
    go_simp
    refine hK.out _ _ ?_ (fun hHeld => ?_)
    · exact hHeld0
    clear hK K hHeld0
    have hHeld0 := hHeld
    clear hHeld
    try simp only [Act.put, List.setIfInBounds_toArray, List.set_cons_zero, List.set_cons_succ]
    refine last.wpAnyL_take (i := 13) (v := (.pointer (some ⟨X, pre.length + 4, none⟩))) rfl rfl (by kernel_rfl) (by kernel_rfl) (by kernel_rfl) (by kernel_rfl) (fun _ _ _ h => h) (Or.inl ⟨by rfl, ?_⟩) (by assumption) ?_
    · intro wq hSq; go_simp
    try simp only [Act.put, List.setIfInBounds_toArray, List.set_cons_zero, List.set_cons_succ]
    have n4 := hHeld0.set 4 (by simp) (.slice la k lc)
    have u4 := hHeld0.cell 4 _ rfl
    have v4 := hHeld0.fz (pre.length + 4)
    refine last.wpAnyL_last (o := { dst := none, op := Op.store 25 (Operand.tmp 47) (Operand.tmp 45), type := 0, pos := "l11_coord.go:206", after := #[{ on := 13, ground := Ground.data }, { on := 11, ground := Ground.data }, { on := 0, ground := Ground.phase }, { on := 1, ground := Ground.phase }, { on := 2, ground := Ground.phase }, { on := 3, ground := Ground.phase }, { on := 4, ground := Ground.phase }, { on := 5, ground := Ground.phase }, { on := 6, ground := Ground.phase }, { on := 7, ground := Ground.phase }, { on := 8, ground := Ground.phase }, { on := 9, ground := Ground.phase }, { on := 10, ground := Ground.phase }, { on := 11, ground := Ground.phase }], guard := none }) (by kernel_rfl) rfl (by kernel_rfl) (fun K hK => ?_)
    go_simp
    refine hK.out _ _ ?_
    clear hK K
    have hB6 : BoxIn X T pre [.int .i64 c.1, .int .i64 c.2.1, .int .i64 c.2.2.1, .slice ja jn jc, .slice la k lc, .int .i64 c.2.2.2.2.2] post _ := n4.1
    have g4 := n4.2
    have hFr6 := hFrD.grown g4 (fun b e => by cases e; exact .inl (by simp))
    have hs6 : D.heap.size ≤ (D.setCell ⟨X, pre.length + 4, none⟩ (.slice la k lc)).heap.size := g4.size
    clear n4 u4 v4 hHeld0 g4
    generalize hw6 : D.setCell ⟨X, pre.length + 4, none⟩ (.slice la k lc) = w6 at *
    clear hw6
    have q4 := hB6.cell 4 _ rfl
    have q5 := hB6.cell 5 _ rfl
    have f5 := hB6.fz (pre.length + 5)
    have n5 := hB6.set 5 (by simp) (.int .i64 (k : Int))
    have hB7 : BoxIn X T pre [.int .i64 c.1, .int .i64 c.2.1, .int .i64 c.2.2.1, .slice ja jn jc, .slice la k lc, .int .i64 (k : Int)] post _ := n5.1
    have q1 := hB7.cell 1 _ rfl
    have f1 := hB7.fz (pre.length + 1)
    have n1 := hB7.set 1 (by simp) (.int .i64 (c.2.1 + 1))
    have hB8 : BoxIn X T pre [.int .i64 c.1, .int .i64 (c.2.1 + 1), .int .i64 c.2.2.1, .slice ja jn jc, .slice la k lc, .int .i64 (k : Int)] post _ := n1.1
    have q2 := hB8.cell 2 _ rfl
    have f2 := hB8.fz (pre.length + 2)
    have n2 := hB8.set 2 (by simp) (.int .i64 0)
    have hB9 : BoxIn X T pre [.int .i64 c.1, .int .i64 (c.2.1 + 1), .int .i64 0, .slice ja jn jc, .slice la k lc, .int .i64 (k : Int)] post _ := n2.1
    have q3 := hB9.cell 3 _ rfl
    have f3 := hB9.fz (pre.length + 3)
    have n3 := hB9.set 3 (by simp) (.slice (some ⟨w6.heap.size, 0, none⟩) 0 0)
    have hB10 : BoxIn X T pre [.int .i64 c.1, .int .i64 (c.2.1 + 1), .int .i64 0, .slice (some ⟨w6.heap.size, 0, none⟩) 0 0, .slice la k lc, .int .i64 (k : Int)] post _ := n3.1
    have gA := grownBy_trans (grownBy_trans (grownBy_trans n5.2 n1.2) n2.2) n3.2
    have hFr10 := hFr6.grown gA (fun b e => by cases e; exact .inl (by simp))
    have hsz10 : ((((w6.setCell ⟨X, pre.length + 5, none⟩ (.int .i64 (k : Int))).setCell ⟨X, pre.length + 1, none⟩ (.int .i64 (c.2.1 + 1))).setCell ⟨X, pre.length + 2, none⟩ (.int .i64 0)).setCell ⟨X, pre.length + 3, none⟩ (.slice (some ⟨w6.heap.size, 0, none⟩) 0 0)).heap.size = w6.heap.size := by simp
    have HPOST := Hid.mk' (crash_post (w := w) HE.out hB10 hFr10 hsz10 (by have := HLF.out; have := HSU.out; have := HKL.out; have := HLN.out; have := HLL.out; exact ⟨hwf.n, WalkArith.wf_i64 (by simp only []; omega), (by show (Lit.int .i64 0).wf = true; decide), WalkArith.wf_i64 (by simp only []; omega)⟩) rfl HL.out (fun b hb => by rw [HFE.out]; exact List.mem_append.2 (.inr (by cases la with | none => exact hb | some a => exact hb))) hXF hFlt)
    have hkb : (k : Int) ≤ 1048576 := by have := HKL.out.1; have := HLN.out; have := HLL.out; omega
    have hXw := hB6.lt
    have e1 := hB6.cell 1 _ rfl
    have e2 := hB6.cell 2 _ rfl
    have e3 := hB6.cell 3 _ rfl
    have d1 := hB6.fz (pre.length + 1)
    have d2 := hB6.fz (pre.length + 2)
    have d3 := hB6.fz (pre.length + 3)
    clear hB6 hB7 hB8 hB9 hB10 n5 n1 n2 n3 gA hFr10 hFr6 hsz10 hkk hdW w2 h9 hq9
    generalize pre.length = p at *
    go_wp2_with fail
    go_ret
    exact ⟨rfl, HPOST.out⟩
end Go.Proofs.Ytdeaiefhegjalaa.cos
