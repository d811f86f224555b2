/- The specification's one who decides: a new life. How words lie in memory, and rows of them. No function of the program is named here. A call as a step of a region that draws its order. No function of the program is named here. -/
import Derived.Test.YteniflajiklffaaShak
import Derived.Test.YteniflajiklffaaShaf
import Derived.Test.YteniflajiklffaaShae
import Derived.BigQuiet
import Derived.Test.YteniflajiklffaaShab
import Derived.Test.YteniflajiklffaaShaj
import Derived.Test.YteniflajiklffaaShag
import Derived.WalkKit
import Derived.WalkSpells
import Derived.WalkLawsBesides
namespace Go.Proofs.Yteniflajiklffaa.cos
open Go Go.RowKit Go.Proofs.Yteniflajiklffaa.base Go.Proofs.Yteniflajiklffaa.pairs Go.Proofs.Yteniflajiklffaa.ords Go.Proofs.Yteniflajiklffaa.lay Go.Proofs.Yteniflajiklffaa.wds
set_option linter.unusedVariables false
set_option linter.unusedSimpArgs false

structure InCo (w : World) (X : Nat) (T : TypeId) (pre post : List Value) (ja : Option Addr) (jn jc : Nat) (la : Option Addr) (ln lc : Nat) (c : Co) (F : List Nat) : Prop where
  box : BoxIn X T pre [.int .i64 c.1, .int .i64 c.2.1, .int .i64 c.2.2.1, .slice ja jn jc, .slice la ln lc, .int .i64 c.2.2.2.2.2] post w
  own : coordR.own w [.int .i64 c.1, .int .i64 c.2.1, .int .i64 c.2.2.1, .slice ja jn jc, .slice la ln lc, .int .i64 c.2.2.2.2.2] c F
  out : X ∉ F
def CoPost (w : World) (X : Nat) (T : TypeId) (pre post : List Value) (F : List Nat) (c' : Co) (w' : World) : Prop :=
  ∃ ja jn jc la ln lc F', InCo w' X T pre post ja jn jc la ln lc c' F' ∧ lay.Frame (X :: F) w w' ∧ Fresh w F F'
def crashS (c : Co) (keep : Int) : Co := if c.2.1 = 900 then c else (c.1, c.2.1 + 1, 0, [], c.2.2.2.2.1.take (leftC c.2.2.2.2.1.length c.2.2.2.2.2 keep), (leftC c.2.2.2.2.1.length c.2.2.2.2.2 keep : Int))
theorem crash_post {w w10 : World} {X : Nat} {T : TypeId} {pre post : List Value} {c c' : Co} {keep : Int} {la : Option Addr} {k lc S : Nat} {F : List Nat} {ql : Parts} (he : crashS c keep = c') (hb : BoxIn X T pre [.int .i64 c'.1, .int .i64 c'.2.1, .int .i64 c'.2.2.1, .slice (some ⟨S, 0, none⟩) 0 0, .slice la k lc, .int .i64 c'.2.2.2.2.2] post w10) (hf : lay.Frame [X] w w10) (hs : w10.heap.size = S) (hwf : WfCo c') (hjn : c'.2.2.2.1 = []) (hL0 : OwnG 42 chR w (.slice la k lc) c'.2.2.2.2.1 ql) (hlF : ∀ b ∈ (Value.slice la k lc).ownBlock.toList, b ∈ F) (hXF : X ∉ F) (hFlt : ∀ b ∈ F, b < w.heap.size) : CoPost w X T pre post F (crashS c keep) (w10.alloc (.cells #[] 65)) := by
  have hbm : Below w10.heap.size w10 (w10.alloc (.cells #[] 65)) := below_make
  have hL : OwnG 42 chR w10 (.slice la k lc) c'.2.2.2.2.1 ql := hL0.keep fun b hb2 => hf.block b (hL0.at_ b hb2) (fun e => by
    rw [List.mem_singleton] at e
    rw [(flat_ch.parts hL0).2.2.1, List.append_nil] at hb2
    exact hXF (e ▸ hlF b hb2))
  have hJ : jobsR.own (w10.alloc (.cells #[] 65)) [.slice (some ⟨S, 0, none⟩) 0 0] c'.2.2.2.1 [S] := by rw [hjn, ← hs]; exact ⟨_, [], rfl, by simp [Value.ownBlock, blocksOf], lay.ownG_made _ _ _⟩
  have hl : logR.own (w10.alloc (.cells #[] 65)) [.slice la k lc] c'.2.2.2.2.1 (Value.slice la k lc).ownBlock.toList := logs_own.2 ⟨⟨ql, hL.below hbm⟩, rfl⟩
  have hXl := hb.lt
  have hlS : ∀ b ∈ (Value.slice la k lc).ownBlock.toList, b ≠ S := fun b hb2 e => by
    have h1 := hFlt b (hlF b hb2)
    have h2 := hf.size
    omega
  have hnd : ([S] ++ (Value.slice la k lc).ownBlock.toList).Nodup := nodup_mk (by simp) (logR.ownNodup hl) fun b hb2 hb3 => by
    rw [List.mem_singleton] at hb2
    exact hlS b hb3 hb2
  have hOW := coord_own.2 ⟨_, _, _, _, rfl, hwf, hJ, hl, rfl, hnd⟩
  rw [he]
  refine ⟨_, _, _, la, k, lc, [S] ++ (Value.slice la k lc).ownBlock.toList, ⟨hb.below hbm, hOW, fun e => ?_⟩, (hf.mono fun j hj => by rw [List.mem_singleton] at hj; subst hj; exact List.mem_cons_self).below hbm, fun b hb2 => ?_⟩
  · rcases List.mem_append.1 e with e | e
    · rw [List.mem_singleton] at e; omega
    · exact hXF (hlF _ e)
  · rcases List.mem_append.1 hb2 with e | e
    · rw [List.mem_singleton] at e; have := hf.size; exact .inr (by omega)
    · exact .inl (hlF b e)
set_option maxRecDepth 100000 in
set_option maxHeartbeats 1000000 in
theorem spec_l11Crash (X : Nat) (T : TypeId) (pre post : List Value) (ja : Option Addr) (jn jc : Nat) (la : Option Addr) (ln lc : Nat) (c : Co) (F : List Nat) (keep : Int) (w : World) (h : InCo w X T pre post ja jn jc la ln lc c F) (hlife : 1 ≤ c.2.1 ∧ c.2.1 ≤ 900) (hsure : 0 ≤ c.2.2.2.2.2 ∧ c.2.2.2.2.2 ≤ (c.2.2.2.2.1.length : Int)) (hll8 : c.2.2.2.2.1.length ≤ 1048576) (hkw : (Lit.int .i64 keep).wf = true) :
    Calls Try.prog 95 #[.pointer (some ⟨X, pre.length, none⟩), .int .i64 keep] w fun e w' => e = .returned (.bool (decide (c.2.1 ≠ 900))) ∧ CoPost w X T pre post F (crashS c keep) w' := by
  obtain ⟨hbx, hown, hXF⟩ := h
  have hXl := hbx.lt
  obtain ⟨x, y, F1, F2, e, hwf, hj, hl, hFe, hnd⟩ := coord_own.1 hown
  simp only [List.cons.injEq, and_true, true_and] at e
  obtain ⟨rfl, rfl⟩ := e
  obtain ⟨⟨ql, hL⟩, rfl⟩ := logs_own.1 hl
  have hlnl : ln = c.2.2.2.2.1.length := hL.sl.1.symm
  have hlcl : ln ≤ lc := by rcases hL.shape with ⟨e, h1, _⟩ | ⟨g, cap, e, h1, _⟩ <;> (cases e; try omega)
  by_cases h9 : c.2.1 = 900
  · have HE : Hid (crashS c keep = c) := if_pos h9
    have x1 := hbx.cell 1 _ rfl
    have HP : Hid (CoPost w X T pre post F c w) := ⟨ja, jn, jc, la, ln, lc, F, ⟨hbx, hown, hXF⟩, lay.Frame.refl _ _, Fresh.refl _ _⟩
    have hd9 : decide (c.2.1 ≠ 900) = false := decide_eq_false (fun e => e h9)
    rw [hd9]
    have hq9 : (c.2.1 == 900) = true := beq_iff_eq.2 h9
    clear h9 hbx hown hj hl hL hlife hd9
    generalize c.2.1 = lf at *
    go_enter Try.func95, Try.ntmps95
    go_wp2_with fail
    go_ret
    exact ⟨rfl, by rw [HE.out]; exact HP.out⟩
  obtain ⟨k, hk⟩ : ∃ k, leftC ln c.2.2.2.2.2 keep = k := ⟨_, rfl⟩
  have hkl := leftC_le (ln := ln) (sure := c.2.2.2.2.2) (keep := keep) (by omega)
  rw [hk] at hkl
  have HE : Hid (crashS c keep = (c.1, c.2.1 + 1, 0, [], c.2.2.2.2.1.take k, (k : Int))) := by show _ = _; unfold crashS; rw [if_neg h9, ← hlnl, hk]
  have hd9 : decide (c.2.1 ≠ 900) = true := decide_eq_true h9
  have hq9 : (c.2.1 == 900) = false := beq_eq_false_iff_ne.2 h9
  rw [hd9]
  clear hk hd9
  have w1 : IntKind.i64.wrap (c.2.1 + 1) = c.2.1 + 1 := by rw [IntKind.wrap_i64]; omega
  have w2 : IntKind.i64.wrap ((ln : Int) - c.2.2.2.2.2) = (ln : Int) - c.2.2.2.2.2 := by rw [IntKind.wrap_i64]; omega
  have x1 := hbx.cell 1 _ rfl
  have x4 := hbx.cell 4 _ rfl
  have x5 := hbx.cell 5 _ rfl
  have HLN := Hid.mk' hlnl
  have HSU := Hid.mk' hsure
  have HKL := Hid.mk' hkl
  have HLL := Hid.mk' hll8
  have HLF := Hid.mk' hlife
  have HLC := Hid.mk' hlcl
  have HL := Hid.mk' (hL.take k (by omega))
  have HJ := Hid.mk' hj
  have HND := Hid.mk' hnd
  have HFE := Hid.mk' hFe
  have hFlt := coordR.ownLt hown
  have HBX := Hid.mk' hbx
  clear hlnl hlcl hsure hkl hll8 hlife hL hj hl hnd hFe hown hbx
  by_cases hneg : keep < 0
  · have hz : ¬ (ln : Int) - c.2.2.2.2.2 < 0 := by have := HLN.out; have := HSU.out; omega
    go_enter Try.func95, Try.ntmps95
    go_wp2_with fail
    go_quiet (fail)
    have hb5 : BoxIn X T pre [.int .i64 c.1, .int .i64 c.2.1, .int .i64 c.2.2.1, .slice ja jn jc, .slice la ln lc, .int .i64 c.2.2.2.2.2] post (w.drewN nq) := HBX.out.below (below_drewN (Below.refl _ _) _)
    have hFr5 : lay.Frame [X] w (w.drewN nq) := lay.Frame.of_below (below_drewN (Below.refl _ _) _)
    generalize hwn : w.drewN nq = w5 at *
    clear hwn nq x1 x4 x5
    have x1 := hb5.cell 1 _ rfl
    have x4 := hb5.cell 4 _ rfl
    have x5 := hb5.cell 5 _ rfl
    go_wp2_with fail
    clear x1 x4 x5
    have hkk0 : IntKind.i64.wrap c.2.2.2.2.2 = (k : Int) := by have := HKL.out.2; have := HLN.out; have := HLL.out; have := HSU.out; rw [IntKind.wrap_i64]; omega
    have hkk : IntKind.i64.wrap (c.2.2.2.2.2 + 0) = (k : Int) := by have := HKL.out.2; have := HLN.out; have := HLL.out; have := HSU.out; rw [IntKind.wrap_i64]; omega
    have hdW : Below w5.heap.size w5 w5.drew := (Below.refl _ _).drew
    refine last.wp_region_later (S := fun w' => BoxIn X T pre [.int .i64 c.1, .int .i64 c.2.1, .int .i64 c.2.2.1, .slice ja jn jc, .slice la ln lc, .int .i64 c.2.2.2.2.2] post w') 14 (by kernel_rfl) (hb5.below hdW) (fun hHeld0 => ?_)
    have hFrD : lay.Frame [X] w w5.drew := hFr5.below hdW
    generalize hD : w5.drew = D at *
    clear hD
    refine last.wpAnyL_take (i := 0) (v := (.pointer (some ⟨X, pre.length, none⟩))) rfl rfl (by kernel_rfl) (by kernel_rfl) (by kernel_rfl) (by kernel_rfl) (fun _ _ _ h => h) (Or.inl ⟨by rfl, ?_⟩) (by assumption) ?_
    · intro wq hSq; go_simp
    try simp only [Act.put, List.setIfInBounds_toArray, List.set_cons_zero, List.set_cons_succ]
    refine last.wpAnyL_take (i := 1) (v := (.pointer (some ⟨X, pre.length, none⟩))) rfl rfl (by kernel_rfl) (by kernel_rfl) (by kernel_rfl) (by kernel_rfl) (fun _ _ _ h => h) (Or.inl ⟨by rfl, ?_⟩) (by assumption) ?_
    · intro wq hSq; go_simp
    try simp only [Act.put, List.setIfInBounds_toArray, List.set_cons_zero, List.set_cons_succ]
    refine last.wpAnyL_take (i := 2) (v := (.pointer (some ⟨X, pre.length, none⟩))) rfl rfl (by kernel_rfl) (by kernel_rfl) (by kernel_rfl) (by kernel_rfl) (fun _ _ _ h => h) (Or.inl ⟨by rfl, ?_⟩) (by assumption) ?_
    · intro wq hSq; go_simp
    try simp only [Act.put, List.setIfInBounds_toArray, List.set_cons_zero, List.set_cons_succ]
    refine last.wpAnyL_take (i := 3) (v := (.pointer (some ⟨X, pre.length + 4, none⟩))) rfl rfl (by kernel_rfl) (by kernel_rfl) (by kernel_rfl) (by kernel_rfl) (fun _ _ _ h => h) (Or.inl ⟨by rfl, ?_⟩) (by assumption) ?_
    · intro wq hSq; go_simp
    try simp only [Act.put, List.setIfInBounds_toArray, List.set_cons_zero, List.set_cons_succ]
    refine last.wpAnyL_take (i := 4) (v := (.slice la ln lc)) rfl rfl (by kernel_rfl) (by kernel_rfl) (by kernel_rfl) (by kernel_rfl) (fun _ _ _ h => h) (Or.inl ⟨by rfl, ?_⟩) (by assumption) ?_
    · intro wq hSq; have q := hSq.cell 4 _ rfl; go_simp
    try simp only [Act.put, List.setIfInBounds_toArray, List.set_cons_zero, List.set_cons_succ]
    refine last.wpAnyL_take (i := 5) (v := (.pointer (some ⟨X, pre.length, none⟩))) rfl rfl (by kernel_rfl) (by kernel_rfl) (by kernel_rfl) (by kernel_rfl) (fun _ _ _ h => h) (Or.inl ⟨by rfl, ?_⟩) (by assumption) ?_
    · intro wq hSq; go_simp
    try simp only [Act.put, List.setIfInBounds_toArray, List.set_cons_zero, List.set_cons_succ]
    refine last.wpAnyL_take (i := 6) (v := (.pointer (some ⟨X, pre.length, none⟩))) rfl rfl (by kernel_rfl) (by kernel_rfl) (by kernel_rfl) (by kernel_rfl) (fun _ _ _ h => h) (Or.inl ⟨by rfl, ?_⟩) (by assumption) ?_
    · intro wq hSq; go_simp
    try simp only [Act.put, List.setIfInBounds_toArray, List.set_cons_zero, List.set_cons_succ]
    refine last.wpAnyL_take (i := 7) (v := (.pointer (some ⟨X, pre.length + 5, none⟩))) rfl rfl (by kernel_rfl) (by kernel_rfl) (by kernel_rfl) (by kernel_rfl) (fun _ _ _ h => h) (Or.inl ⟨by rfl, ?_⟩) (by assumption) ?_
    · intro wq hSq; go_simp
    try simp only [Act.put, List.setIfInBounds_toArray, List.set_cons_zero, List.set_cons_succ]
    refine last.wpAnyL_take (i := 8) (v := (.int .i64 c.2.2.2.2.2)) rfl rfl (by kernel_rfl) (by kernel_rfl) (by kernel_rfl) (by kernel_rfl) (fun _ _ _ h => h) (Or.inl ⟨by rfl, ?_⟩) (by assumption) ?_
    · intro wq hSq; have q := hSq.cell 5 _ rfl; go_simp
    try simp only [Act.put, List.setIfInBounds_toArray, List.set_cons_zero, List.set_cons_succ]
    refine last.wpAnyL_take (i := 9) (v := (.int .i64 0)) rfl rfl (by kernel_rfl) (by kernel_rfl) (by kernel_rfl) (by kernel_rfl) (fun _ _ _ h => h) (Or.inl ⟨by rfl, ?_⟩) (by assumption) ?_
    · intro wq hSq; go_simp
    try simp only [Act.put, List.setIfInBounds_toArray, List.set_cons_zero, List.set_cons_succ]
    refine last.wpAnyL_take (i := 10) (v := (.int .i64 (k : Int))) rfl rfl (by kernel_rfl) (by kernel_rfl) (by kernel_rfl) (by kernel_rfl) (fun _ _ _ h => h) (Or.inl ⟨by rfl, ?_⟩) (by assumption) ?_
    · intro wq hSq; go_simp
    try simp only [Act.put, List.setIfInBounds_toArray, List.set_cons_zero, List.set_cons_succ]
    refine last.wpAnyL_take (i := 11) (v := (.slice la k lc)) rfl rfl (by kernel_rfl) (by kernel_rfl) (by kernel_rfl) (by kernel_rfl) (fun _ _ _ h => h) (Or.inl ⟨by rfl, ?_⟩) (by assumption) ?_
    · intro wq hSq; have q1 : ¬ lc < k := by (have := HKL.out.1; have := HLC.out; omega)
      go_simp
    try simp only [Act.put, List.setIfInBounds_toArray, List.set_cons_zero, List.set_cons_succ]
    refine last.wpAnyL_one (i := 12) (o := { dst := some 46, op := Op.nilCheck (Operand.tmp 34), type := 0, pos := "l11_coord.go:206", after := #[{ on := 0, ground := Ground.data }, { on := 0, ground := Ground.phase }, { on := 1, ground := Ground.phase }, { on := 2, ground := Ground.phase }, { on := 3, ground := Ground.phase }, { on := 4, ground := Ground.phase }, { on := 5, ground := Ground.phase }, { on := 6, ground := Ground.phase }, { on := 7, ground := Ground.phase }, { on := 8, ground := Ground.phase }, { on := 9, ground := Ground.phase }, { on := 10, ground := Ground.phase }, { on := 11, ground := Ground.phase }], guard := none }) (by kernel_rfl) rfl (fun K hK => ?_)
    go_simp
    refine hK.out _ _ ?_ (fun hHeld => ?_)
    · exact hHeld0
    clear hK K hHeld0
    have hHeld0 := hHeld
    clear hHeld
    try simp only [Act.put, List.setIfInBounds_toArray, List.set_cons_zero, List.set_cons_succ]
    refine last.wpAnyL_take (i := 13) (v := (.pointer (some ⟨X, pre.length + 4, none⟩))) rfl rfl (by kernel_rfl) (by kernel_rfl) (by kernel_rfl) (by kernel_rfl) (fun _ _ _ h => h) (Or.inl ⟨by rfl, ?_⟩) (by assumption) ?_
    · intro wq hSq; go_simp
    try simp only [Act.put, List.setIfInBounds_toArray, List.set_cons_zero, List.set_cons_succ]
    have n4 := hHeld0.set 4 (by simp) (.slice la k lc)
    have u4 := hHeld0.cell 4 _ rfl
    have v4 := hHeld0.fz (pre.length + 4)
    refine last.wpAnyL_last (o := { dst := none, op := Op.store 25 (Operand.tmp 47) (Operand.tmp 45), type := 0, pos := "l11_coord.go:206", after := #[{ on := 13, ground := Ground.data }, { on := 11, ground := Ground.data }, { on := 0, ground := Ground.phase }, { on := 1, ground := Ground.phase }, { on := 2, ground := Ground.phase }, { on := 3, ground := Ground.phase }, { on := 4, ground := Ground.phase }, { on := 5, ground := Ground.phase }, { on := 6, ground := Ground.phase }, { on := 7, ground := Ground.phase }, { on := 8, ground := Ground.phase }, { on := 9, ground := Ground.phase }, { on := 10, ground := Ground.phase }, { on := 11, ground := Ground.phase }], guard := none }) (by kernel_rfl) rfl (by kernel_rfl) (fun K hK => ?_)
    go_simp
    refine hK.out _ _ ?_
    clear hK K
    have hB6 : BoxIn X T pre [.int .i64 c.1, .int .i64 c.2.1, .int .i64 c.2.2.1, .slice ja jn jc, .slice la k lc, .int .i64 c.2.2.2.2.2] post _ := n4.1
    have g4 := n4.2
    have hFr6 := hFrD.grown g4 (fun b e => by cases e; exact .inl (by simp))
    have hs6 : D.heap.size ≤ (D.setCell ⟨X, pre.length + 4, none⟩ (.slice la k lc)).heap.size := g4.size
    clear n4 u4 v4 hHeld0 g4
    generalize hw6 : D.setCell ⟨X, pre.length + 4, none⟩ (.slice la k lc) = w6 at *
    clear hw6
    have q4 := hB6.cell 4 _ rfl
    have q5 := hB6.cell 5 _ rfl
    have f5 := hB6.fz (pre.length + 5)
    have n5 := hB6.set 5 (by simp) (.int .i64 (k : Int))
    have hB7 : BoxIn X T pre [.int .i64 c.1, .int .i64 c.2.1, .int .i64 c.2.2.1, .slice ja jn jc, .slice la k lc, .int .i64 (k : Int)] post _ := n5.1
    have q1 := hB7.cell 1 _ rfl
    have f1 := hB7.fz (pre.length + 1)
    have n1 := hB7.set 1 (by simp) (.int .i64 (c.2.1 + 1))
    have hB8 : BoxIn X T pre [.int .i64 c.1, .int .i64 (c.2.1 + 1), .int .i64 c.2.2.1, .slice ja jn jc, .slice la k lc, .int .i64 (k : Int)] post _ := n1.1
    have q2 := hB8.cell 2 _ rfl
    have f2 := hB8.fz (pre.length + 2)
    have n2 := hB8.set 2 (by simp) (.int .i64 0)
    have hB9 : BoxIn X T pre [.int .i64 c.1, .int .i64 (c.2.1 + 1), .int .i64 0, .slice ja jn jc, .slice la k lc, .int .i64 (k : Int)] post _ := n2.1
    have q3 := hB9.cell 3 _ rfl
    have f3 := hB9.fz (pre.length + 3)
    have n3 := hB9.set 3 (by simp) (.slice (some ⟨w6.heap.size, 0, none⟩) 0 0)
    have hB10 : BoxIn X T pre [.int .i64 c.1, .int .i64 (c.2.1 + 1), .int .i64 0, .slice (some ⟨w6.heap.size, 0, none⟩) 0 0, .slice la k lc, .int .i64 (k : Int)] post _ := n3.1
    have gA := grownBy_trans (grownBy_trans (grownBy_trans n5.2 n1.2) n2.2) n3.2
    have hFr10 := hFr6.grown gA (fun b e => by cases e; exact .inl (by simp))
    have hsz10 : ((((w6.setCell ⟨X, pre.length + 5, none⟩ (.int .i64 (k : Int))).setCell ⟨X, pre.length + 1, none⟩ (.int .i64 (c.2.1 + 1))).setCell ⟨X, pre.length + 2, none⟩ (.int .i64 0)).setCell ⟨X, pre.length + 3, none⟩ (.slice (some ⟨w6.heap.size, 0, none⟩) 0 0)).heap.size = w6.heap.size := by simp
    have HPOST := Hid.mk' (crash_post (w := w) HE.out hB10 hFr10 hsz10 (by have := HLF.out; have := HSU.out; have := HKL.out; have := HLN.out; have := HLL.out; exact ⟨hwf.n, WalkArith.wf_i64 (by simp only []; omega), (by show (Lit.int .i64 0).wf = true; decide), WalkArith.wf_i64 (by simp only []; omega)⟩) rfl HL.out (fun b hb => by rw [HFE.out]; exact List.mem_append.2 (.inr (by cases la with | none => exact hb | some a => exact hb))) hXF hFlt)
    have hkb : (k : Int) ≤ 1048576 := by have := HKL.out.1; have := HLN.out; have := HLL.out; omega
    have hXw := hB6.lt
    have e1 := hB6.cell 1 _ rfl
    have e2 := hB6.cell 2 _ rfl
    have e3 := hB6.cell 3 _ rfl
    have d1 := hB6.fz (pre.length + 1)
    have d2 := hB6.fz (pre.length + 2)
    have d3 := hB6.fz (pre.length + 3)
    clear hB6 hB7 hB8 hB9 hB10 n5 n1 n2 n3 gA hFr10 hFr6 hsz10 hkk hdW w2 h9 hq9
    generalize pre.length = p at *
    go_wp2_with fail
    go_ret
    exact ⟨rfl, HPOST.out⟩
  by_cases hgt : (ln : Int) - c.2.2.2.2.2 < keep
  · skip
    go_enter Try.func95, Try.ntmps95
    go_wp2_with fail
    go_quiet (fail)
    have hb5 : BoxIn X T pre [.int .i64 c.1, .int .i64 c.2.1, .int .i64 c.2.2.1, .slice ja jn jc, .slice la ln lc, .int .i64 c.2.2.2.2.2] post (w.drewN nq) := HBX.out.below (below_drewN (Below.refl _ _) _)
    have hFr5 : lay.Frame [X] w (w.drewN nq) := lay.Frame.of_below (below_drewN (Below.refl _ _) _)
    generalize hwn : w.drewN nq = w5 at *
    clear hwn nq x1 x4 x5
    have x1 := hb5.cell 1 _ rfl
    have x4 := hb5.cell 4 _ rfl
    have x5 := hb5.cell 5 _ rfl
    go_wp2_with fail
    go_quiet (fail)
    have hb9 : BoxIn X T pre [.int .i64 c.1, .int .i64 c.2.1, .int .i64 c.2.2.1, .slice ja jn jc, .slice la ln lc, .int .i64 c.2.2.2.2.2] post (w5.drewN nq) := hb5.below (below_drewN (Below.refl _ _) _)
    have hFr9 : lay.Frame [X] w (w5.drewN nq) := hFr5.below (below_drewN (Below.refl _ _) _)
    generalize hwn : w5.drewN nq = w9 at *
    clear hwn nq x1 x4 x5
    have x1 := hb9.cell 1 _ rfl
    have x4 := hb9.cell 4 _ rfl
    have x5 := hb9.cell 5 _ rfl
    go_wp2_with fail
    clear x1 x4 x5
    have hkk : IntKind.i64.wrap (c.2.2.2.2.2 + ((ln : Int) - c.2.2.2.2.2)) = (k : Int) := by have := HKL.out.2; have := HLN.out; have := HLL.out; have := HSU.out; rw [IntKind.wrap_i64]; omega
    have hdW : Below w9.heap.size w9 w9.drew := (Below.refl _ _).drew
    refine last.wp_region_later (S := fun w' => BoxIn X T pre [.int .i64 c.1, .int .i64 c.2.1, .int .i64 c.2.2.1, .slice ja jn jc, .slice la ln lc, .int .i64 c.2.2.2.2.2] post w') 14 (by kernel_rfl) (hb9.below hdW) (fun hHeld0 => ?_)
    have hFrD : lay.Frame [X] w w9.drew := hFr9.below hdW
    generalize hD : w9.drew = D at *
    clear hD
    refine last.wpAnyL_take (i := 0) (v := (.pointer (some ⟨X, pre.length, none⟩))) rfl rfl (by kernel_rfl) (by kernel_rfl) (by kernel_rfl) (by kernel_rfl) (fun _ _ _ h => h) (Or.inl ⟨by rfl, ?_⟩) (by assumption) ?_
    · intro wq hSq; go_simp
    try simp only [Act.put, List.setIfInBounds_toArray, List.set_cons_zero, List.set_cons_succ]
    refine last.wpAnyL_take (i := 1) (v := (.pointer (some ⟨X, pre.length, none⟩))) rfl rfl (by kernel_rfl) (by kernel_rfl) (by kernel_rfl) (by kernel_rfl) (fun _ _ _ h => h) (Or.inl ⟨by rfl, ?_⟩) (by assumption) ?_
    · intro wq hSq; go_simp
    try simp only [Act.put, List.setIfInBounds_toArray, List.set_cons_zero, List.set_cons_succ]
    refine last.wpAnyL_take (i := 2) (v := (.pointer (some ⟨X, pre.length, none⟩))) rfl rfl (by kernel_rfl) (by kernel_rfl) (by kernel_rfl) (by kernel_rfl) (fun _ _ _ h => h) (Or.inl ⟨by rfl, ?_⟩) (by assumption) ?_
    · intro wq hSq; go_simp
    try simp only [Act.put, List.setIfInBounds_toArray, List.set_cons_zero, List.set_cons_succ]
    refine last.wpAnyL_take (i := 3) (v := (.pointer (some ⟨X, pre.length + 4, none⟩))) rfl rfl (by kernel_rfl) (by kernel_rfl) (by kernel_rfl) (by kernel_rfl) (fun _ _ _ h => h) (Or.inl ⟨by rfl, ?_⟩) (by assumption) ?_
    · intro wq hSq; go_simp
    try simp only [Act.put, List.setIfInBounds_toArray, List.set_cons_zero, List.set_cons_succ]
    refine last.wpAnyL_take (i := 4) (v := (.slice la ln lc)) rfl rfl (by kernel_rfl) (by kernel_rfl) (by kernel_rfl) (by kernel_rfl) (fun _ _ _ h => h) (Or.inl ⟨by rfl, ?_⟩) (by assumption) ?_
    · intro wq hSq; have q := hSq.cell 4 _ rfl; go_simp
    try simp only [Act.put, List.setIfInBounds_toArray, List.set_cons_zero, List.set_cons_succ]
    refine last.wpAnyL_take (i := 5) (v := (.pointer (some ⟨X, pre.length, none⟩))) rfl rfl (by kernel_rfl) (by kernel_rfl) (by kernel_rfl) (by kernel_rfl) (fun _ _ _ h => h) (Or.inl ⟨by rfl, ?_⟩) (by assumption) ?_
    · intro wq hSq; go_simp
    try simp only [Act.put, List.setIfInBounds_toArray, List.set_cons_zero, List.set_cons_succ]
    refine last.wpAnyL_take (i := 6) (v := (.pointer (some ⟨X, pre.length, none⟩))) rfl rfl (by kernel_rfl) (by kernel_rfl) (by kernel_rfl) (by kernel_rfl) (fun _ _ _ h => h) (Or.inl ⟨by rfl, ?_⟩) (by assumption) ?_
    · intro wq hSq; go_simp
    try simp only [Act.put, List.setIfInBounds_toArray, List.set_cons_zero, List.set_cons_succ]
    refine last.wpAnyL_take (i := 7) (v := (.pointer (some ⟨X, pre.length + 5, none⟩))) rfl rfl (by kernel_rfl) (by kernel_rfl) (by kernel_rfl) (by kernel_rfl) (fun _ _ _ h => h) (Or.inl ⟨by rfl, ?_⟩) (by assumption) ?_
    · intro wq hSq; go_simp
    try simp only [Act.put, List.setIfInBounds_toArray, List.set_cons_zero, List.set_cons_succ]
    refine last.wpAnyL_take (i := 8) (v := (.int .i64 c.2.2.2.2.2)) rfl rfl (by kernel_rfl) (by kernel_rfl) (by kernel_rfl) (by kernel_rfl) (fun _ _ _ h => h) (Or.inl ⟨by rfl, ?_⟩) (by assumption) ?_
    · intro wq hSq; have q := hSq.cell 5 _ rfl; go_simp
    try simp only [Act.put, List.setIfInBounds_toArray, List.set_cons_zero, List.set_cons_succ]
    refine last.wpAnyL_take (i := 9) (v := (.int .i64 ((ln : Int) - c.2.2.2.2.2))) rfl rfl (by kernel_rfl) (by kernel_rfl) (by kernel_rfl) (by kernel_rfl) (fun _ _ _ h => h) (Or.inl ⟨by rfl, ?_⟩) (by assumption) ?_
    · intro wq hSq; go_simp
    try simp only [Act.put, List.setIfInBounds_toArray, List.set_cons_zero, List.set_cons_succ]
    refine last.wpAnyL_take (i := 10) (v := (.int .i64 (k : Int))) rfl rfl (by kernel_rfl) (by kernel_rfl) (by kernel_rfl) (by kernel_rfl) (fun _ _ _ h => h) (Or.inl ⟨by rfl, ?_⟩) (by assumption) ?_
    · intro wq hSq; go_simp
    try simp only [Act.put, List.setIfInBounds_toArray, List.set_cons_zero, List.set_cons_succ]
    refine last.wpAnyL_take (i := 11) (v := (.slice la k lc)) rfl rfl (by kernel_rfl) (by kernel_rfl) (by kernel_rfl) (by kernel_rfl) (fun _ _ _ h => h) (Or.inl ⟨by rfl, ?_⟩) (by assumption) ?_
    · intro wq hSq; have q1 : ¬ lc < k := by (have := HKL.out.1; have := HLC.out; omega)
      go_simp
    try simp only [Act.put, List.setIfInBounds_toArray, List.set_cons_zero, List.set_cons_succ]
    refine last.wpAnyL_one (i := 12) (o := { dst := some 46, op := Op.nilCheck (Operand.tmp 34), type := 0, pos := "l11_coord.go:206", after := #[{ on := 0, ground := Ground.data }, { on := 0, ground := Ground.phase }, { on := 1, ground := Ground.phase }, { on := 2, ground := Ground.phase }, { on := 3, ground := Ground.phase }, { on := 4, ground := Ground.phase }, { on := 5, ground := Ground.phase }, { on := 6, ground := Ground.phase }, { on := 7, ground := Ground.phase }, { on := 8, ground := Ground.phase }, { on := 9, ground := Ground.phase }, { on := 10, ground := Ground.phase }, { on := 11, ground := Ground.phase }], guard := none }) (by kernel_rfl) rfl (fun K hK => ?_)
    go_simp
    refine hK.out _ _ ?_ (fun hHeld => ?_)
    · exact hHeld0
    clear hK K hHeld0
    have hHeld0 := hHeld
    clear hHeld
    try simp only [Act.put, List.setIfInBounds_toArray, List.set_cons_zero, List.set_cons_succ]
    refine last.wpAnyL_take (i := 13) (v := (.pointer (some ⟨X, pre.length + 4, none⟩))) rfl rfl (by kernel_rfl) (by kernel_rfl) (by kernel_rfl) (by kernel_rfl) (fun _ _ _ h => h) (Or.inl ⟨by rfl, ?_⟩) (by assumption) ?_
    · intro wq hSq; go_simp
    try simp only [Act.put, List.setIfInBounds_toArray, List.set_cons_zero, List.set_cons_succ]
    have n4 := hHeld0.set 4 (by simp) (.slice la k lc)
    have u4 := hHeld0.cell 4 _ rfl
    have v4 := hHeld0.fz (pre.length + 4)
    refine last.wpAnyL_last (o := { dst := none, op := Op.store 25 (Operand.tmp 47) (Operand.tmp 45), type := 0, pos := "l11_coord.go:206", after := #[{ on := 13, ground := Ground.data }, { on := 11, ground := Ground.data }, { on := 0, ground := Ground.phase }, { on := 1, ground := Ground.phase }, { on := 2, ground := Ground.phase }, { on := 3, ground := Ground.phase }, { on := 4, ground := Ground.phase }, { on := 5, ground := Ground.phase }, { on := 6, ground := Ground.phase }, { on := 7, ground := Ground.phase }, { on := 8, ground := Ground.phase }, { on := 9, ground := Ground.phase }, { on := 10, ground := Ground.phase }, { on := 11, ground := Ground.phase }], guard := none }) (by kernel_rfl) rfl (by kernel_rfl) (fun K hK => ?_)
    go_simp
    refine hK.out _ _ ?_
    clear hK K
    have hB6 : BoxIn X T pre [.int .i64 c.1, .int .i64 c.2.1, .int .i64 c.2.2.1, .slice ja jn jc, .slice la k lc, .int .i64 c.2.2.2.2.2] post _ := n4.1
    have g4 := n4.2
    have hFr6 := hFrD.grown g4 (fun b e => by cases e; exact .inl (by simp))
    have hs6 : D.heap.size ≤ (D.setCell ⟨X, pre.length + 4, none⟩ (.slice la k lc)).heap.size := g4.size
    clear n4 u4 v4 hHeld0 g4
    generalize hw6 : D.setCell ⟨X, pre.length + 4, none⟩ (.slice la k lc) = w6 at *
    clear hw6
    have q4 := hB6.cell 4 _ rfl
    have q5 := hB6.cell 5 _ rfl
    have f5 := hB6.fz (pre.length + 5)
    have n5 := hB6.set 5 (by simp) (.int .i64 (k : Int))
    have hB7 : BoxIn X T pre [.int .i64 c.1, .int .i64 c.2.1, .int .i64 c.2.2.1, .slice ja jn jc, .slice la k lc, .int .i64 (k : Int)] post _ := n5.1
    have q1 := hB7.cell 1 _ rfl
    have f1 := hB7.fz (pre.length + 1)
    have n1 := hB7.set 1 (by simp) (.int .i64 (c.2.1 + 1))
    have hB8 : BoxIn X T pre [.int .i64 c.1, .int .i64 (c.2.1 + 1), .int .i64 c.2.2.1, .slice ja jn jc, .slice la k lc, .int .i64 (k : Int)] post _ := n1.1
    have q2 := hB8.cell 2 _ rfl
    have f2 := hB8.fz (pre.length + 2)
    have n2 := hB8.set 2 (by simp) (.int .i64 0)
    have hB9 : BoxIn X T pre [.int .i64 c.1, .int .i64 (c.2.1 + 1), .int .i64 0, .slice ja jn jc, .slice la k lc, .int .i64 (k : Int)] post _ := n2.1
    have q3 := hB9.cell 3 _ rfl
    have f3 := hB9.fz (pre.length + 3)
    have n3 := hB9.set 3 (by simp) (.slice (some ⟨w6.heap.size, 0, none⟩) 0 0)
    have hB10 : BoxIn X T pre [.int .i64 c.1, .int .i64 (c.2.1 + 1), .int .i64 0, .slice (some ⟨w6.heap.size, 0, none⟩) 0 0, .slice la k lc, .int .i64 (k : Int)] post _ := n3.1
    have gA := grownBy_trans (grownBy_trans (grownBy_trans n5.2 n1.2) n2.2) n3.2
    have hFr10 := hFr6.grown gA (fun b e => by cases e; exact .inl (by simp))
    have hsz10 : ((((w6.setCell ⟨X, pre.length + 5, none⟩ (.int .i64 (k : Int))).setCell ⟨X, pre.length + 1, none⟩ (.int .i64 (c.2.1 + 1))).setCell ⟨X, pre.length + 2, none⟩ (.int .i64 0)).setCell ⟨X, pre.length + 3, none⟩ (.slice (some ⟨w6.heap.size, 0, none⟩) 0 0)).heap.size = w6.heap.size := by simp
    have HPOST := Hid.mk' (crash_post (w := w) HE.out hB10 hFr10 hsz10 (by have := HLF.out; have := HSU.out; have := HKL.out; have := HLN.out; have := HLL.out; exact ⟨hwf.n, WalkArith.wf_i64 (by simp only []; omega), (by show (Lit.int .i64 0).wf = true; decide), WalkArith.wf_i64 (by simp only []; omega)⟩) rfl HL.out (fun b hb => by rw [HFE.out]; exact List.mem_append.2 (.inr (by cases la with | none => exact hb | some a => exact hb))) hXF hFlt)
    have hkb : (k : Int) ≤ 1048576 := by have := HKL.out.1; have := HLN.out; have := HLL.out; omega
    have hXw := hB6.lt
    have e1 := hB6.cell 1 _ rfl
    have e2 := hB6.cell 2 _ rfl
    have e3 := hB6.cell 3 _ rfl
    have d1 := hB6.fz (pre.length + 1)
    have d2 := hB6.fz (pre.length + 2)
    have d3 := hB6.fz (pre.length + 3)
    clear hB6 hB7 hB8 hB9 hB10 n5 n1 n2 n3 gA hFr10 hFr6 hsz10 hkk hdW w2 h9 hq9
    generalize pre.length = p at *
    go_wp2_with fail
    go_ret
    exact ⟨rfl, HPOST.out⟩
  · skip
    go_enter Try.func95, Try.ntmps95
    go_wp2_with fail
    go_quiet (fail)
    have hb5 : BoxIn X T pre [.int .i64 c.1, .int .i64 c.2.1, .int .i64 c.2.2.1, .slice ja jn jc, .slice la ln lc, .int .i64 c.2.2.2.2.2] post (w.drewN nq) := HBX.out.below (below_drewN (Below.refl _ _) _)
    have hFr5 : lay.Frame [X] w (w.drewN nq) := lay.Frame.of_below (below_drewN (Below.refl _ _) _)
    generalize hwn : w.drewN nq = w5 at *
    clear hwn nq x1 x4 x5
    have x1 := hb5.cell 1 _ rfl
    have x4 := hb5.cell 4 _ rfl
    have x5 := hb5.cell 5 _ rfl
    go_wp2_with fail
    clear x1 x4 x5
    have hkk : IntKind.i64.wrap (c.2.2.2.2.2 + keep) = (k : Int) := by have := HKL.out.2; have := HLN.out; have := HLL.out; have := HSU.out; rw [IntKind.wrap_i64]; omega
    have hdW : Below w5.heap.size w5 w5.drew := (Below.refl _ _).drew
    refine last.wp_region_later (S := fun w' => BoxIn X T pre [.int .i64 c.1, .int .i64 c.2.1, .int .i64 c.2.2.1, .slice ja jn jc, .slice la ln lc, .int .i64 c.2.2.2.2.2] post w') 14 (by kernel_rfl) (hb5.below hdW) (fun hHeld0 => ?_)
    have hFrD : lay.Frame [X] w w5.drew := hFr5.below hdW
    generalize hD : w5.drew = D at *
    clear hD
    refine last.wpAnyL_take (i := 0) (v := (.pointer (some ⟨X, pre.length, none⟩))) rfl rfl (by kernel_rfl) (by kernel_rfl) (by kernel_rfl) (by kernel_rfl) (fun _ _ _ h => h) (Or.inl ⟨by rfl, ?_⟩) (by assumption) ?_
    · intro wq hSq; go_simp
    try simp only [Act.put, List.setIfInBounds_toArray, List.set_cons_zero, List.set_cons_succ]
    refine last.wpAnyL_take (i := 1) (v := (.pointer (some ⟨X, pre.length, none⟩))) rfl rfl (by kernel_rfl) (by kernel_rfl) (by kernel_rfl) (by kernel_rfl) (fun _ _ _ h => h) (Or.inl ⟨by rfl, ?_⟩) (by assumption) ?_
    · intro wq hSq; go_simp
    try simp only [Act.put, List.setIfInBounds_toArray, List.set_cons_zero, List.set_cons_succ]
    refine last.wpAnyL_take (i := 2) (v := (.pointer (some ⟨X, pre.length, none⟩))) rfl rfl (by kernel_rfl) (by kernel_rfl) (by kernel_rfl) (by kernel_rfl) (fun _ _ _ h => h) (Or.inl ⟨by rfl, ?_⟩) (by assumption) ?_
    · intro wq hSq; go_simp
    try simp only [Act.put, List.setIfInBounds_toArray, List.set_cons_zero, List.set_cons_succ]
    refine last.wpAnyL_take (i := 3) (v := (.pointer (some ⟨X, pre.length + 4, none⟩))) rfl rfl (by kernel_rfl) (by kernel_rfl) (by kernel_rfl) (by kernel_rfl) (fun _ _ _ h => h) (Or.inl ⟨by rfl, ?_⟩) (by assumption) ?_
    · intro wq hSq; go_simp
    try simp only [Act.put, List.setIfInBounds_toArray, List.set_cons_zero, List.set_cons_succ]
    refine last.wpAnyL_take (i := 4) (v := (.slice la ln lc)) rfl rfl (by kernel_rfl) (by kernel_rfl) (by kernel_rfl) (by kernel_rfl) (fun _ _ _ h => h) (Or.inl ⟨by rfl, ?_⟩) (by assumption) ?_
    · intro wq hSq; have q := hSq.cell 4 _ rfl; go_simp
    try simp only [Act.put, List.setIfInBounds_toArray, List.set_cons_zero, List.set_cons_succ]
    refine last.wpAnyL_take (i := 5) (v := (.pointer (some ⟨X, pre.length, none⟩))) rfl rfl (by kernel_rfl) (by kernel_rfl) (by kernel_rfl) (by kernel_rfl) (fun _ _ _ h => h) (Or.inl ⟨by rfl, ?_⟩) (by assumption) ?_
    · intro wq hSq; go_simp
    try simp only [Act.put, List.setIfInBounds_toArray, List.set_cons_zero, List.set_cons_succ]
    refine last.wpAnyL_take (i := 6) (v := (.pointer (some ⟨X, pre.length, none⟩))) rfl rfl (by kernel_rfl) (by kernel_rfl) (by kernel_rfl) (by kernel_rfl) (fun _ _ _ h => h) (Or.inl ⟨by rfl, ?_⟩) (by assumption) ?_
    · intro wq hSq; go_simp
    try simp only [Act.put, List.setIfInBounds_toArray, List.set_cons_zero, List.set_cons_succ]
    refine last.wpAnyL_take (i := 7) (v := (.pointer (some ⟨X, pre.length + 5, none⟩))) rfl rfl (by kernel_rfl) (by kernel_rfl) (by kernel_rfl) (by kernel_rfl) (fun _ _ _ h => h) (Or.inl ⟨by rfl, ?_⟩) (by assumption) ?_
    · intro wq hSq; go_simp
    try simp only [Act.put, List.setIfInBounds_toArray, List.set_cons_zero, List.set_cons_succ]
    refine last.wpAnyL_take (i := 8) (v := (.int .i64 c.2.2.2.2.2)) rfl rfl (by kernel_rfl) (by kernel_rfl) (by kernel_rfl) (by kernel_rfl) (fun _ _ _ h => h) (Or.inl ⟨by rfl, ?_⟩) (by assumption) ?_
    · intro wq hSq; have q := hSq.cell 5 _ rfl; go_simp
    try simp only [Act.put, List.setIfInBounds_toArray, List.set_cons_zero, List.set_cons_succ]
    refine last.wpAnyL_take (i := 9) (v := (.int .i64 keep)) rfl rfl (by kernel_rfl) (by kernel_rfl) (by kernel_rfl) (by kernel_rfl) (fun _ _ _ h => h) (Or.inl ⟨by rfl, ?_⟩) (by assumption) ?_
    · intro wq hSq; go_simp
    try simp only [Act.put, List.setIfInBounds_toArray, List.set_cons_zero, List.set_cons_succ]
    refine last.wpAnyL_take (i := 10) (v := (.int .i64 (k : Int))) rfl rfl (by kernel_rfl) (by kernel_rfl) (by kernel_rfl) (by kernel_rfl) (fun _ _ _ h => h) (Or.inl ⟨by rfl, ?_⟩) (by assumption) ?_
    · intro wq hSq; go_simp
    try simp only [Act.put, List.setIfInBounds_toArray, List.set_cons_zero, List.set_cons_succ]
    refine last.wpAnyL_take (i := 11) (v := (.slice la k lc)) rfl rfl (by kernel_rfl) (by kernel_rfl) (by kernel_rfl) (by kernel_rfl) (fun _ _ _ h => h) (Or.inl ⟨by rfl, ?_⟩) (by assumption) ?_
    · intro wq hSq; have q1 : ¬ lc < k := by (have := HKL.out.1; have := HLC.out; omega)
      go_simp
    try simp only [Act.put, List.setIfInBounds_toArray, List.set_cons_zero, List.set_cons_succ]
    refine last.wpAnyL_one (i := 12) (o := { dst := some 46, op := Op.nilCheck (Operand.tmp 34), type := 0, pos := "l11_coord.go:206", after := #[{ on := 0, ground := Ground.data }, { on := 0, ground := Ground.phase }, { on := 1, ground := Ground.phase }, { on := 2, ground := Ground.phase }, { on := 3, ground := Ground.phase }, { on := 4, ground := Ground.phase }, { on := 5, ground := Ground.phase }, { on := 6, ground := Ground.phase }, { on := 7, ground := Ground.phase }, { on := 8, ground := Ground.phase }, { on := 9, ground := Ground.phase }, { on := 10, ground := Ground.phase }, { on := 11, ground := Ground.phase }], guard := none }) (by kernel_rfl) rfl (fun K hK => ?_)
    go_simp
    refine hK.out _ _ ?_ (fun hHeld => ?_)
    · exact hHeld0
    clear hK K hHeld0
    have hHeld0 := hHeld
    clear hHeld
    try simp only [Act.put, List.setIfInBounds_toArray, List.set_cons_zero, List.set_cons_succ]
    refine last.wpAnyL_take (i := 13) (v := (.pointer (some ⟨X, pre.length + 4, none⟩))) rfl rfl (by kernel_rfl) (by kernel_rfl) (by kernel_rfl) (by kernel_rfl) (fun _ _ _ h => h) (Or.inl ⟨by rfl, ?_⟩) (by assumption) ?_
    · intro wq hSq; go_simp
    try simp only [Act.put, List.setIfInBounds_toArray, List.set_cons_zero, List.set_cons_succ]
    have n4 := hHeld0.set 4 (by simp) (.slice la k lc)
    have u4 := hHeld0.cell 4 _ rfl
    have v4 := hHeld0.fz (pre.length + 4)
    refine last.wpAnyL_last (o := { dst := none, op := Op.store 25 (Operand.tmp 47) (Operand.tmp 45), type := 0, pos := "l11_coord.go:206", after := #[{ on := 13, ground := Ground.data }, { on := 11, ground := Ground.data }, { on := 0, ground := Ground.phase }, { on := 1, ground := Ground.phase }, { on := 2, ground := Ground.phase }, { on := 3, ground := Ground.phase }, { on := 4, ground := Ground.phase }, { on := 5, ground := Ground.phase }, { on := 6, ground := Ground.phase }, { on := 7, ground := Ground.phase }, { on := 8, ground := Ground.phase }, { on := 9, ground := Ground.phase }, { on := 10, ground := Ground.phase }, { on := 11, ground := Ground.phase }], guard := none }) (by kernel_rfl) rfl (by kernel_rfl) (fun K hK => ?_)
    go_simp
    refine hK.out _ _ ?_
    clear hK K
    have hB6 : BoxIn X T pre [.int .i64 c.1, .int .i64 c.2.1, .int .i64 c.2.2.1, .slice ja jn jc, .slice la k lc, .int .i64 c.2.2.2.2.2] post _ := n4.1
    have g4 := n4.2
    have hFr6 := hFrD.grown g4 (fun b e => by cases e; exact .inl (by simp))
    have hs6 : D.heap.size ≤ (D.setCell ⟨X, pre.length + 4, none⟩ (.slice la k lc)).heap.size := g4.size
    clear n4 u4 v4 hHeld0 g4
    generalize hw6 : D.setCell ⟨X, pre.length + 4, none⟩ (.slice la k lc) = w6 at *
    clear hw6
    have q4 := hB6.cell 4 _ rfl
    have q5 := hB6.cell 5 _ rfl
    have f5 := hB6.fz (pre.length + 5)
    have n5 := hB6.set 5 (by simp) (.int .i64 (k : Int))
    have hB7 : BoxIn X T pre [.int .i64 c.1, .int .i64 c.2.1, .int .i64 c.2.2.1, .slice ja jn jc, .slice la k lc, .int .i64 (k : Int)] post _ := n5.1
    have q1 := hB7.cell 1 _ rfl
    have f1 := hB7.fz (pre.length + 1)
    have n1 := hB7.set 1 (by simp) (.int .i64 (c.2.1 + 1))
    have hB8 : BoxIn X T pre [.int .i64 c.1, .int .i64 (c.2.1 + 1), .int .i64 c.2.2.1, .slice ja jn jc, .slice la k lc, .int .i64 (k : Int)] post _ := n1.1
    have q2 := hB8.cell 2 _ rfl
    have f2 := hB8.fz (pre.length + 2)
    have n2 := hB8.set 2 (by simp) (.int .i64 0)
    have hB9 : BoxIn X T pre [.int .i64 c.1, .int .i64 (c.2.1 + 1), .int .i64 0, .slice ja jn jc, .slice la k lc, .int .i64 (k : Int)] post _ := n2.1
    have q3 := hB9.cell 3 _ rfl
    have f3 := hB9.fz (pre.length + 3)
    have n3 := hB9.set 3 (by simp) (.slice (some ⟨w6.heap.size, 0, none⟩) 0 0)
    have hB10 : BoxIn X T pre [.int .i64 c.1, .int .i64 (c.2.1 + 1), .int .i64 0, .slice (some ⟨w6.heap.size, 0, none⟩) 0 0, .slice la k lc, .int .i64 (k : Int)] post _ := n3.1
    have gA := grownBy_trans (grownBy_trans (grownBy_trans n5.2 n1.2) n2.2) n3.2
    have hFr10 := hFr6.grown gA (fun b e => by cases e; exact .inl (by simp))
    have hsz10 : ((((w6.setCell ⟨X, pre.length + 5, none⟩ (.int .i64 (k : Int))).setCell ⟨X, pre.length + 1, none⟩ (.int .i64 (c.2.1 + 1))).setCell ⟨X, pre.length + 2, none⟩ (.int .i64 0)).setCell ⟨X, pre.length + 3, none⟩ (.slice (some ⟨w6.heap.size, 0, none⟩) 0 0)).heap.size = w6.heap.size := by simp
    have HPOST := Hid.mk' (crash_post (w := w) HE.out hB10 hFr10 hsz10 (by have := HLF.out; have := HSU.out; have := HKL.out; have := HLN.out; have := HLL.out; exact ⟨hwf.n, WalkArith.wf_i64 (by simp only []; omega), (by show (Lit.int .i64 0).wf = true; decide), WalkArith.wf_i64 (by simp only []; omega)⟩) rfl HL.out (fun b hb => by rw [HFE.out]; exact List.mem_append.2 (.inr (by cases la with | none => exact hb | some a => exact hb))) hXF hFlt)
    have hkb : (k : Int) ≤ 1048576 := by have := HKL.out.1; have := HLN.out; have := HLL.out; omega
    have hXw := hB6.lt
    have e1 := hB6.cell 1 _ rfl
    have e2 := hB6.cell 2 _ rfl
    have e3 := hB6.cell 3 _ rfl
    have d1 := hB6.fz (pre.length + 1)
    have d2 := hB6.fz (pre.length + 2)
    have d3 := hB6.fz (pre.length + 3)
    clear hB6 hB7 hB8 hB9 hB10 n5 n1 n2 n3 gA hFr10 hFr6 hsz10 hkk hdW w2 h9 hq9
    generalize pre.length = p at *
    go_wp2_with fail
    go_ret
    exact ⟨rfl, HPOST.out⟩
end Go.Proofs.Yteniflajiklffaa.cos

namespace Go.Proofs.Yteniflajiklffaa.cos
open Go Go.RowKit Go.Proofs.Yteniflajiklffaa.base Go.Proofs.Yteniflajiklffaa.pairs Go.Proofs.Yteniflajiklffaa.ords Go.Proofs.Yteniflajiklffaa.lay Go.Proofs.Yteniflajiklffaa.wds
set_option linter.unusedVariables false
set_option linter.unusedSimpArgs false

def wordR : Rd Wd := both int (both int (both int (both opsR bool)))
def wordsR : Rd (List Wd) := slice 39 wordR
theorem infoW : (Try.prog.info? 39).map (fun i => (i.zero, i.size, i.bytes)) = some (some (.agg #[.int .i64 0, .int .i64 0, .int .i64 0, .slice none 0 0, .bool false]), 5, 56) := by kernel_rfl
section
variable {w : World} {vs : List Value} {x : Wd} {F : List Nat}
theorem word_see : wordR.see w vs x ↔ ∃ oa ol oc, vs = [.int .i64 x.1, .int .i64 x.2.1, .int .i64 x.2.2.1, .slice oa ol oc, .bool x.2.2.2.2] ∧ (Lit.int .i64 x.1).wf = true ∧ (Lit.int .i64 x.2.1).wf = true ∧ (Lit.int .i64 x.2.2.1).wf = true ∧ SlO w oa ol x.2.2.2.1 ∧ ol ≤ oc := by
  constructor
  · rintro ⟨u1, t1, rfl, h1, u2, t2, rfl, h2, u3, t3, rfl, h3, u4, t4, rfl, h4, h5⟩
    obtain ⟨rfl, k1⟩ := flat_int.see.1 h1
    obtain ⟨rfl, k2⟩ := flat_int.see.1 h2
    obtain ⟨rfl, k3⟩ := flat_int.see.1 h3
    obtain ⟨rfl, _⟩ := flat_bool.see.1 h5
    obtain ⟨oa, ol, oc, rfl, _⟩ := id h4
    have h6 := ops_see.1 h4
    exact ⟨oa, ol, oc, rfl, k1, k2, k3, h6.1, h6.2⟩
  · rintro ⟨oa, ol, oc, rfl, k1, k2, k3, h4, h5⟩
    exact ⟨[_], [_, _, _, _], rfl, flat_int.see.2 ⟨rfl, k1⟩, [_], [_, _, _], rfl, flat_int.see.2 ⟨rfl, k2⟩, [_], [_, _], rfl, flat_int.see.2 ⟨rfl, k3⟩, [_], [_], rfl, ops_see.2 ⟨h4, h5⟩, flat_bool.see.2 ⟨rfl, trivial⟩⟩
theorem word_own : wordR.own w vs x F ↔ ∃ v, vs = [.int .i64 x.1, .int .i64 x.2.1, .int .i64 x.2.2.1, v, .bool x.2.2.2.2] ∧ (Lit.int .i64 x.1).wf = true ∧ (Lit.int .i64 x.2.1).wf = true ∧ (Lit.int .i64 x.2.2.1).wf = true ∧ opsR.own w [v] x.2.2.2.1 F := by
  constructor
  · rintro ⟨u1, t1, F1, G1, rfl, rfl, h1, ⟨u2, t2, F2, G2, rfl, rfl, h2, ⟨u3, t3, F3, G3, rfl, rfl, h3, ⟨u4, t4, F4, G4, rfl, rfl, h4, h5, _⟩, _⟩, _⟩, _⟩
    obtain ⟨rfl, k1, rfl⟩ := flat_int.own.1 h1
    obtain ⟨rfl, k2, rfl⟩ := flat_int.own.1 h2
    obtain ⟨rfl, k3, rfl⟩ := flat_int.own.1 h3
    obtain ⟨rfl, _, rfl⟩ := flat_bool.own.1 h5
    obtain ⟨v, q, rfl, _⟩ := id h4
    exact ⟨v, rfl, k1, k2, k3, by simpa using h4⟩
  · rintro ⟨v, rfl, k1, k2, k3, h4⟩
    have hn := opsR.ownNodup h4
    exact ⟨[_], [_, _, v, _], [], F, rfl, rfl, flat_int.own.2 ⟨rfl, k1, rfl⟩, ⟨[_], [_, v, _], [], F, rfl, rfl, flat_int.own.2 ⟨rfl, k2, rfl⟩, ⟨[_], [v, _], [], F, rfl, rfl, flat_int.own.2 ⟨rfl, k3, rfl⟩, ⟨[v], [_], F, [], rfl, (List.append_nil _).symm, h4, flat_bool.own.2 ⟨rfl, trivial, rfl⟩, hn⟩, hn⟩, hn⟩, hn⟩
end
def holdsW (n tx : Int) (ops : List Od) (yes : List Int) (l : List Int) : List Wd := (l.filter fun s => !decide (s ∈ yes)).map fun s => (1, s, tx, opsFor s n ops, false)
theorem holdsW_snoc (n tx : Int) (ops : List Od) (yes : List Int) (l : List Int) (s : Int) : holdsW n tx ops yes (l ++ [s]) = if s ∈ yes then holdsW n tx ops yes l else holdsW n tx ops yes l ++ [(1, s, tx, opsFor s n ops, false)] := by
  unfold holdsW
  rw [List.filter_append, List.map_append]
  by_cases h : s ∈ yes
  · rw [if_pos h]; simp [List.filter_cons, h]
  · rw [if_neg h]; simp [List.filter_cons, h]
theorem holdsW_len (n tx : Int) (ops : List Od) (yes : List Int) (l : List Int) : (holdsW n tx ops yes l).length ≤ l.length := by
  unfold holdsW; rw [List.length_map]; exact List.length_filter_le _ _
end Go.Proofs.Yteniflajiklffaa.cos

namespace Go.Proofs.Yteniflajiklffaa.stepg
open Go Go.RowKit
theorem call1 {P : Program} {ops : Array Oper} {o : Oper} {a : Act} {w : World} {K : Act → World → Prop} {Q : Exit → Act → World → Prop} {E : Prop} (hgd : o.guard = none) (f : FuncId) (x0 : Operand) (ts : Array TypeId)
    (ho : o.op = .call { callee := .value (.func f), args := #[x0], argTypes := ts }) (hent : ∀ args w, (callFunc f args).run P w = .ok (.enter f args) w)
    (v0 : Value) (h0 : a.eval x0 = v0) (R : Ending → World → Prop) (hc : Calls P f #[v0] w R)
    (h : ∀ e w', R e w' → ∃ v, e = .returned v ∧ K (a.put o.dst v) w') :
    if Region.wanted o (yielded ops a.tmps) = true then Oper.wp P o a w K Q else E := by
  have hw : Region.wanted o (yielded ops a.tmps) = true := by simp [Region.wanted, hgd]
  rw [if_pos hw]
  unfold Oper.wp execOp
  have hf : a.eval (.func f) = .func (.func f) #[] #[] := rfl
  have hof : (Deferred.ofValue (Value.func (Fn.func f) #[] #[]) #[v0]).run P w = .ok { target := .fn (.func f) #[], args := #[v0] } w := rfl
  simp only [ho, resolve, invoke, Sem.run_bind, List.map_toArray, List.map_cons, List.map_nil, h0, hf, hof, Result.andThen_ok, hent]
  show Calls P f #[v0] w _
  exact hc.mono (fun e w' he => by obtain ⟨v, rfl, hr⟩ := h e w' he; exact hr)
theorem call2 {P : Program} {ops : Array Oper} {o : Oper} {a : Act} {w : World} {K : Act → World → Prop} {Q : Exit → Act → World → Prop} {E : Prop} (hgd : o.guard = none) (f : FuncId) (x0 x1 : Operand) (ts : Array TypeId)
    (ho : o.op = .call { callee := .value (.func f), args := #[x0, x1], argTypes := ts }) (hent : ∀ args w, (callFunc f args).run P w = .ok (.enter f args) w)
    (v0 v1 : Value) (h0 : a.eval x0 = v0) (h1 : a.eval x1 = v1) (R : Ending → World → Prop) (hc : Calls P f #[v0, v1] w R)
    (h : ∀ e w', R e w' → ∃ v, e = .returned v ∧ K (a.put o.dst v) w') :
    if Region.wanted o (yielded ops a.tmps) = true then Oper.wp P o a w K Q else E := by
  have hw : Region.wanted o (yielded ops a.tmps) = true := by simp [Region.wanted, hgd]
  rw [if_pos hw]
  unfold Oper.wp execOp
  have hf : a.eval (.func f) = .func (.func f) #[] #[] := rfl
  have hof : (Deferred.ofValue (Value.func (Fn.func f) #[] #[]) #[v0, v1]).run P w = .ok { target := .fn (.func f) #[], args := #[v0, v1] } w := rfl
  simp only [ho, resolve, invoke, Sem.run_bind, List.map_toArray, List.map_cons, List.map_nil, h0, h1, hf, hof, Result.andThen_ok, hent]
  show Calls P f #[v0, v1] w _
  exact hc.mono (fun e w' he => by obtain ⟨v, rfl, hr⟩ := h e w' he; exact hr)
theorem call3 {P : Program} {ops : Array Oper} {o : Oper} {a : Act} {w : World} {K : Act → World → Prop} {Q : Exit → Act → World → Prop} {E : Prop} (hgd : o.guard = none) (f : FuncId) (x0 x1 x2 : Operand) (ts : Array TypeId)
    (ho : o.op = .call { callee := .value (.func f), args := #[x0, x1, x2], argTypes := ts }) (hent : ∀ args w, (callFunc f args).run P w = .ok (.enter f args) w)
    (v0 v1 v2 : Value) (h0 : a.eval x0 = v0) (h1 : a.eval x1 = v1) (h2 : a.eval x2 = v2) (R : Ending → World → Prop) (hc : Calls P f #[v0, v1, v2] w R)
    (h : ∀ e w', R e w' → ∃ v, e = .returned v ∧ K (a.put o.dst v) w') :
    if Region.wanted o (yielded ops a.tmps) = true then Oper.wp P o a w K Q else E := by
  have hw : Region.wanted o (yielded ops a.tmps) = true := by simp [Region.wanted, hgd]
  rw [if_pos hw]
  unfold Oper.wp execOp
  have hf : a.eval (.func f) = .func (.func f) #[] #[] := rfl
  have hof : (Deferred.ofValue (Value.func (Fn.func f) #[] #[]) #[v0, v1, v2]).run P w = .ok { target := .fn (.func f) #[], args := #[v0, v1, v2] } w := rfl
  simp only [ho, resolve, invoke, Sem.run_bind, List.map_toArray, List.map_cons, List.map_nil, h0, h1, h2, hf, hof, Result.andThen_ok, hent]
  show Calls P f #[v0, v1, v2] w _
  exact hc.mono (fun e w' he => by obtain ⟨v, rfl, hr⟩ := h e w' he; exact hr)
theorem call4 {P : Program} {ops : Array Oper} {o : Oper} {a : Act} {w : World} {K : Act → World → Prop} {Q : Exit → Act → World → Prop} {E : Prop} (hgd : o.guard = none) (f : FuncId) (x0 x1 x2 x3 : Operand) (ts : Array TypeId)
    (ho : o.op = .call { callee := .value (.func f), args := #[x0, x1, x2, x3], argTypes := ts }) (hent : ∀ args w, (callFunc f args).run P w = .ok (.enter f args) w)
    (v0 v1 v2 v3 : Value) (h0 : a.eval x0 = v0) (h1 : a.eval x1 = v1) (h2 : a.eval x2 = v2) (h3 : a.eval x3 = v3) (R : Ending → World → Prop) (hc : Calls P f #[v0, v1, v2, v3] w R)
    (h : ∀ e w', R e w' → ∃ v, e = .returned v ∧ K (a.put o.dst v) w') :
    if Region.wanted o (yielded ops a.tmps) = true then Oper.wp P o a w K Q else E := by
  have hw : Region.wanted o (yielded ops a.tmps) = true := by simp [Region.wanted, hgd]
  rw [if_pos hw]
  unfold Oper.wp execOp
  have hf : a.eval (.func f) = .func (.func f) #[] #[] := rfl
  have hof : (Deferred.ofValue (Value.func (Fn.func f) #[] #[]) #[v0, v1, v2, v3]).run P w = .ok { target := .fn (.func f) #[], args := #[v0, v1, v2, v3] } w := rfl
  simp only [ho, resolve, invoke, Sem.run_bind, List.map_toArray, List.map_cons, List.map_nil, h0, h1, h2, h3, hf, hof, Result.andThen_ok, hent]
  show Calls P f #[v0, v1, v2, v3] w _
  exact hc.mono (fun e w' he => by obtain ⟨v, rfl, hr⟩ := h e w' he; exact hr)
end Go.Proofs.Yteniflajiklffaa.stepg
