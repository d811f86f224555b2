/- Where a number is put into a row of numbers that rise: behind as many as are below it. The program's one who decides: a vote is heard (what addYes does is a premise here). -/
import Derived.Test.YtdeaiefhegjalaaGreatBund14a
import Derived.Test.YtdeaiefhegjalaaGreatBund12bb
namespace Go.Proofs.YtdeaiefhegjalaaGreat.cos
open Go Go.RowKit Go.Proofs.YtdeaiefhegjalaaGreat.base Go.Proofs.YtdeaiefhegjalaaGreat.ords

theorem asc_count {zs : List Int} (ha : Asc zs) (n : Int) : zs.filter (fun x => decide (x < n)) = zs.take (zs.countP fun x => decide (x < n)) ∧ (n ∉ zs → zs.filter (fun x => decide (n < x)) = zs.drop (zs.countP fun x => decide (x < n))) := by
  induction zs with
  | nil => exact ⟨rfl, fun _ => rfl⟩
  | cons z zs ih =>
    have hp : (∀ y ∈ zs, z < y) ∧ Asc zs := by
      unfold Asc at ha
      rw [List.pairwise_cons] at ha
      exact ha
    obtain ⟨h1, h2⟩ := ih hp.2
    by_cases hz : z < n
    · refine ⟨?_, fun hn => ?_⟩
      · rw [List.filter_cons_of_pos (by simpa using hz), List.countP_cons_of_pos (by simpa using hz), List.take_succ_cons, h1]
      · rw [List.filter_cons_of_neg (by simp; omega), List.countP_cons_of_pos (by simpa using hz), List.drop_succ_cons, h2 (fun e => hn (List.mem_cons_of_mem _ e))]
    · have h0 : zs.countP (fun x => decide (x < n)) = 0 := List.countP_eq_zero.2 fun y hy => by have := hp.1 y hy; simp; omega
      refine ⟨?_, fun hn => ?_⟩
      · rw [List.filter_cons_of_neg (by simpa using hz), List.countP_cons_of_neg (by simpa using hz), h1, h0]
        rfl
      · have hne : z ≠ n := fun e => hn (by rw [e]; exact List.mem_cons_self)
        rw [List.countP_cons_of_neg (by simpa using hz), h0, List.drop_zero]
        refine List.filter_eq_self.2 fun y hy => ?_
        rcases List.mem_cons.1 hy with e | e
        · rw [e]; simp; omega
        · have := hp.1 y e; simp; omega
/-- a number that is not there is put behind as many as are below it -/
theorem putI_count {zs : List Int} (ha : Asc zs) {n : Int} (hn : n ∉ zs) : putI zs n = zs.take (zs.countP fun x => decide (x < n)) ++ n :: zs.drop (zs.countP fun x => decide (x < n)) := by
  unfold putI
  rw [if_neg hn, (asc_count ha n).1, (asc_count ha n).2 hn]
end Go.Proofs.YtdeaiefhegjalaaGreat.cos

namespace Go.Proofs.YtdeaiefhegjalaaGreat.cos
open Go Go.RowKit Go.Proofs.YtdeaiefhegjalaaGreat.base Go.Proofs.YtdeaiefhegjalaaGreat.pairs Go.Proofs.YtdeaiefhegjalaaGreat.ords Go.Proofs.YtdeaiefhegjalaaGreat.lay Go.Proofs.YtdeaiefhegjalaaGreat.wds
set_option linter.unusedVariables false
set_option linter.unusedSimpArgs false

/-- one who decides, with a shard's yes at the job at k -/
def yesC (c : Co) (k : Nat) (hk : k < c.2.2.2.1.length) (shard : Int) : Co := (c.1, c.2.1, c.2.2.1, c.2.2.2.1.set k (c.2.2.2.1[k].1, c.2.2.2.1[k].2.1, c.2.2.2.1[k].2.2.1, putI c.2.2.2.1[k].2.2.2 shard), c.2.2.2.2.1, c.2.2.2.2.2)
/-- what is heard -/
def heardC (c : Co) (k : Nat) (hk : k < c.2.2.2.1.length) (shard : Int) (yes : Bool) : Co := if shard ∈ shardsOf c.1 c.2.2.2.1[k].2.1 then votedC c k c.2.2.2.1[k] shard yes else c
theorem InCo.jobs {w : World} {X : Nat} {T : TypeId} {pre post : List Value} {gj jn jc : Nat} {la : Option Addr} {ln lc : Nat} {c : Co} {F : List Nat} (h : InCo w X T pre post (some ⟨gj, 0, none⟩) jn jc la ln lc c F) : SlG jobR w (some ⟨gj, 0, none⟩) jn c.2.2.2.1 := by
  obtain ⟨vx, vy, F1, F2, e, hwf, hj, hl, hFe, hnd⟩ := coord_own.1 h.own
  simp only [List.cons.injEq, and_true, true_and] at e
  obtain ⟨rfl, rfl⟩ := e
  obtain ⟨vj, qj, e, hF1, hJ⟩ := hj
  simp only [List.cons.injEq, and_true] at e
  subst e
  exact hJ.sl
theorem InCo.wf {w : World} {X : Nat} {T : TypeId} {pre post : List Value} {ja : Option Addr} {jn jc : Nat} {la : Option Addr} {ln lc : Nat} {c : Co} {F : List Nat} (h : InCo w X T pre post ja jn jc la ln lc c F) : WfCo c := by
  obtain ⟨vx, vy, F1, F2, e, hwf, hj, hl, hFe, hnd⟩ := coord_own.1 h.own
  exact hwf
/-- what addYes must do -/
def AddsYes (f : FuncId) : Prop := ∀ (X : Nat) (T : TypeId) (pre post : List Value) (gj jn jc : Nat) (la : Option Addr) (ln lc : Nat) (c : Co) (F : List Nat) (k : Nat) (hk : k < c.2.2.2.1.length) (shard : Int) (w : World), InCo w X T pre post (some ⟨gj, 0, none⟩) jn jc la ln lc c F → (Lit.int .i64 shard).wf = true → Asc c.2.2.2.1[k].2.2.2 → c.2.2.2.1[k].2.2.2.length ≤ 8 →
  Calls Tryz.prog f #[.pointer (some ⟨gj, k * 4, none⟩), .int .i64 shard] w fun e w' => e = .returned (.tuple #[]) ∧ ∃ F', InCo w' X T pre post (some ⟨gj, 0, none⟩) jn jc la ln lc (yesC c k hk shard) F' ∧ lay.Frame (X :: F) w w' ∧ Fresh w F F'
set_option maxRecDepth 100000 in
set_option maxHeartbeats 4000000 in
theorem i_hear (HAY : AddsYes 86) (X : Nat) (T : TypeId) (pre post : List Value) (gj jn jc : Nat) (la : Option Addr) (ln lc : Nat) (c : Co) (F : List Nat) (k : Nat) (hk : k < c.2.2.2.1.length) (shard : Int) (yes : Bool) (w : World) (h : InCo w X T pre post (some ⟨gj, 0, none⟩) jn jc la ln lc c F) (hln : c.2.2.2.2.1.length ≤ 1048576) (hsw : (Lit.int .i64 shard).wf = true) (hks : ∀ p ∈ c.2.2.2.1[k].2.1, p.2.1.size ≤ 1099511627776) (hop : opsOk c.2.2.2.1[k].2.1 = true) (hyl : c.2.2.2.1[k].2.2.2.length ≤ 8 ∧ Asc c.2.2.2.1[k].2.2.2) :
    Calls Tryz.prog 52 #[.pointer (some ⟨X, pre.length, none⟩), .pointer (some ⟨gj, k * 4, none⟩), .int .i64 shard, .bool yes] w fun e w' => e = .returned (.tuple #[]) ∧ CoPost w X T pre post F (heardC c k hk shard yes) w' := by
  obtain ⟨c0, c2, ⟨oa, ol, oc, c1, hSo, hoc⟩, _⟩ := job_at h.jobs k hk
  simp only [Nat.zero_add] at c0 c1 c2
  have hol := hSo.1
  have ho1 := opsOk_len hop
  obtain ⟨ob, oo, rfl, _⟩ := hSo.2.2.2 (by omega)
  have hgl := World.block_lt_of_cell? _ _ c1
  have hnw := h.wf.n
  have HSH := Hid.mk' (fun wx (hx : Below w.heap.size w wx) => impl_shardsOf ob oo ol oc c.2.2.2.1[k].2.1 c.1 wx (hSo.below hx) hks (by omega) hnw)
  have HO := Hid.mk' c1
  have HX := Hid.mk' h.box
  have HI := Hid.mk' h
  have hdW : Below w.heap.size w w.drew := (Below.refl _ _).drew
  have HYL := Hid.mk' hyl
  have hs8 := shards_len c.1 c.2.2.2.1[k].2.1 ho1.2
  obtain ⟨sh, hsh⟩ : ∃ sh, shardsOf c.1 c.2.2.2.1[k].2.1 = sh := ⟨_, rfl⟩
  have HSE := Hid.mk' hsh
  rw [hsh] at HSH hs8
  clear h c0 c1 c2 hSo hoc hol ho1 hks hop hyl hsh
  go_enter Tryz.func52, Tryz.ntmps52
  go_wp2_with fail
  refine last.wp_region_later (S := fun w' => Below w.heap.size w w') 9 (by kernel_rfl) hdW (fun hHeld0 => ?_)
  generalize hD : w.drew = D at *
  clear hD
  refine last.wpAnyL_take (i := 0) (v := (.pointer (some ⟨gj, k * 4, none⟩))) rfl rfl (by kernel_rfl) (by kernel_rfl) (by kernel_rfl) (by kernel_rfl) (fun _ _ _ h => h) (Or.inl ⟨by rfl, ?_⟩) (by assumption) ?_
  · intro wq hSq; go_simp
  try simp only [Act.put, List.setIfInBounds_toArray, List.set_cons_zero, List.set_cons_succ]
  refine last.wpAnyL_take (i := 1) (v := (.pointer (some ⟨gj, k * 4, none⟩))) rfl rfl (by kernel_rfl) (by kernel_rfl) (by kernel_rfl) (by kernel_rfl) (fun _ _ _ h => h) (Or.inl ⟨by rfl, ?_⟩) (by assumption) ?_
  · intro wq hSq; go_simp
  try simp only [Act.put, List.setIfInBounds_toArray, List.set_cons_zero, List.set_cons_succ]
  refine last.wpAnyL_take (i := 2) (v := (.pointer (some ⟨gj, k * 4 + 1, none⟩))) rfl rfl (by kernel_rfl) (by kernel_rfl) (by kernel_rfl) (by kernel_rfl) (fun _ _ _ h => h) (Or.inl ⟨by rfl, ?_⟩) (by assumption) ?_
  · intro wq hSq; go_simp
  try simp only [Act.put, List.setIfInBounds_toArray, List.set_cons_zero, List.set_cons_succ]
  refine last.wpAnyL_take (i := 3) (v := (.slice (some ⟨ob, oo, none⟩) ol oc)) rfl rfl (by kernel_rfl) (by kernel_rfl) (by kernel_rfl) (by kernel_rfl) (fun _ _ _ h => h) (Or.inl ⟨by rfl, ?_⟩) (by assumption) ?_
  · intro wq hSq; have q := (hSq.cell (p := ⟨gj, k * 4 + 1, none⟩) hgl).trans HO.out; go_simp
  try simp only [Act.put, List.setIfInBounds_toArray, List.set_cons_zero, List.set_cons_succ]
  refine last.wpAnyL_take (i := 4) (v := (.pointer (some ⟨X, pre.length, none⟩))) rfl rfl (by kernel_rfl) (by kernel_rfl) (by kernel_rfl) (by kernel_rfl) (fun _ _ _ h => h) (Or.inl ⟨by rfl, ?_⟩) (by assumption) ?_
  · intro wq hSq; go_simp
  try simp only [Act.put, List.setIfInBounds_toArray, List.set_cons_zero, List.set_cons_succ]
  refine last.wpAnyL_take (i := 5) (v := (.pointer (some ⟨X, pre.length, none⟩))) rfl rfl (by kernel_rfl) (by kernel_rfl) (by kernel_rfl) (by kernel_rfl) (fun _ _ _ h => h) (Or.inl ⟨by rfl, ?_⟩) (by assumption) ?_
  · intro wq hSq; go_simp
  try simp only [Act.put, List.setIfInBounds_toArray, List.set_cons_zero, List.set_cons_succ]
  refine last.wpAnyL_take (i := 6) (v := (.pointer (some ⟨X, pre.length, none⟩))) rfl rfl (by kernel_rfl) (by kernel_rfl) (by kernel_rfl) (by kernel_rfl) (fun _ _ _ h => h) (Or.inl ⟨by rfl, ?_⟩) (by assumption) ?_
  · intro wq hSq; go_simp
  try simp only [Act.put, List.setIfInBounds_toArray, List.set_cons_zero, List.set_cons_succ]
  refine last.wpAnyL_take (i := 7) (v := (.int .i64 c.1)) rfl rfl (by kernel_rfl) (by kernel_rfl) (by kernel_rfl) (by kernel_rfl) (fun _ _ _ h => h) (Or.inl ⟨by rfl, ?_⟩) (by assumption) ?_
  · intro wq hSq; have q := (cells6p (HX.out.below hSq)).1; go_simp
  try simp only [Act.put, List.setIfInBounds_toArray, List.set_cons_zero, List.set_cons_succ]
  refine last.wpAnyL_one (i := 8) (o := { dst := some 17, op := Op.call { callee := Callee.value (Operand.func 84), args := #[Operand.tmp 12, Operand.tmp 16], argTypes := #[56, 3] }, type := 92, pos := "l11_coord.go:212", after := #[{ on := 3, ground := Ground.data }, { on := 7, ground := Ground.data }], guard := none }) (by kernel_rfl) rfl (fun K hK => ?_)
  refine stepg.call2 rfl 84 (.tmp 12) (.tmp 16) _ rfl (fun _ _ => rfl) (.slice (some ⟨ob, oo, none⟩) ol oc) (.int .i64 c.1) (by kernel_rfl) (by kernel_rfl) _ (HSH.out _ hdW) ?_
  rintro e w3 ⟨gs, ns, cs, rfl, hZ, hb3'⟩
  refine ⟨_, rfl, ?_⟩
  have hb3 := hdW.trans (hb3'.mono hdW.size)
  refine hK.out _ _ ?_ (fun hHeld => ?_)
  · exact hb3
  clear hK K hHeld0
  have hHeld0 := hHeld
  clear hHeld
  try simp only [Act.put, List.setIfInBounds_toArray, List.set_cons_zero, List.set_cons_succ]
  refine last.wpAnyL_last (o := { dst := some 8, op := Op.assign (Operand.tmp 17), type := 92, pos := "l11_coord.go:212", after := #[{ on := 8, ground := Ground.data }, { on := 8, ground := Ground.chain }, { on := 0, ground := Ground.phase }, { on := 1, ground := Ground.phase }, { on := 2, ground := Ground.phase }, { on := 3, ground := Ground.phase }, { on := 4, ground := Ground.phase }, { on := 5, ground := Ground.phase }, { on := 6, ground := Ground.phase }, { on := 7, ground := Ground.phase }, { on := 8, ground := Ground.phase }], guard := none }) (by kernel_rfl) rfl (by kernel_rfl) (fun K hK => ?_)
  go_simp
  refine hK.out _ _ ?_
  clear hK K
  clear hHeld0
  have hzl := hZ.1
  have HCT := Hid.mk' (i_contains (some ⟨gs, 0, none⟩) ns cs sh shard w3 hZ.sl)
  have HI3 := Hid.mk' (HI.out.below hb3)
  by_cases hin : shard ∈ sh
  rotate_left
  · rw [decide_eq_false hin] at HCT
    have HP : Hid (CoPost w X T pre post F (heardC c k hk shard yes) w3) := by
      show CoPost _ _ _ _ _ _ _ _
      unfold heardC
      rw [HSE.out, if_neg hin]
      exact CoPost.same HI.out hb3
    clear hin
    go_wp2_with fail
    refine HCT.out.mono ?_
    rintro e w4 ⟨rfl, hw4⟩
    replace hw4 := hw4.symm
    subst hw4
    clear HCT
    go_wp2_with fail
    first | (refine bodyPost_ret (v := .tuple #[]) ?_ rfl ⟨rfl, HP.out⟩) | (refine bodyPost_end (v := .tuple #[]) ?_ rfl ⟨rfl, HP.out⟩)
    simp [results, Tryz.results52, go_sem]
  rw [decide_eq_true hin] at HCT
  have HHE : Hid (∀ y, heardC c k hk shard y = votedC c k c.2.2.2.1[k] shard y) := fun y => by unfold heardC; rw [HSE.out, if_pos hin]
  clear hin
  cases yes
  · have HCH := Hid.mk' (i_choose X T pre post gj jn jc la ln lc c F k hk false w3 HI3.out hln)
    have HE : Hid (logC (stateC c k hk (if false = true then 2 else 3)) c.2.2.2.1[k].1 false = heardC c k hk shard false) := by
      show _ = _
      rw [HHE.out]
      simp [logC, stateC, votedC, votedJ, addCh]
    rw [HE.out] at HCH
    go_wp2_with fail
    refine HCT.out.mono ?_
    rintro e w4 ⟨rfl, hw4⟩
    replace hw4 := hw4.symm
    subst hw4
    clear HCT
    go_wp2_with fail
    refine HCH.out.mono ?_
    rintro e w5 ⟨rfl, hP5⟩
    have HP := Hid.mk' (CoPost.trans (lay.Frame.of_below hb3) hP5)
    clear HCH hP5
    go_wp2_with fail
    first | (refine bodyPost_end (v := .tuple #[]) ?_ rfl ⟨rfl, HP.out⟩) | (refine bodyPost_ret (v := .tuple #[]) ?_ rfl ⟨rfl, HP.out⟩)
    simp [results, Tryz.results52, go_sem]
  · have HAD := Hid.mk' (HAY X T pre post gj jn jc la ln lc c F k hk shard w3 HI3.out hsw HYL.out.2 HYL.out.1)
    clear HAY
    go_wp2_with fail
    refine HCT.out.mono ?_
    rintro e w4 ⟨rfl, hw4⟩
    replace hw4 := hw4.symm
    subst hw4
    clear HCT
    go_wp2_with fail
    refine HAD.out.mono ?_
    rintro e w5 ⟨rfl, F5, hI5, hF5, hfr⟩
    have hk5 : k < (yesC c k hk shard).2.2.2.1.length := by simpa [yesC] using hk
    obtain ⟨_, _, _, ⟨ya, yl, yc, c3, hSy, hyc⟩⟩ := job_at hI5.jobs k hk5
    simp only [Nat.zero_add] at c3
    have hyl5 : yl = (putI c.2.2.2.1[k].2.2.2 shard).length := by rw [← hSy.1]; simp [yesC]
    have HY5 := Hid.mk' hyl5
    have hy9 : yl ≤ 9 := by have := putI_len c.2.2.2.1[k].2.2.2 shard; have := HYL.out.1; omega
    have HFF := Hid.mk' ((lay.Frame.of_below (G := X :: F) hb3).trans hF5 (Fresh.refl _ _))
    have HNZ := Hid.mk' hzl
    clear HAD hyl5 hSy hyc hzl
    by_cases hall : yl = ns
    · have hq : ((yl : Int) == (ns : Int)) = true := by simp; omega
      have HCH := Hid.mk' (i_choose X T pre post gj jn jc la ln lc (yesC c k hk shard) F5 k hk5 true w5 hI5 (by simpa [yesC] using hln))
      have HE : Hid (logC (stateC (yesC c k hk shard) k hk5 (if true = true then 2 else 3)) (yesC c k hk shard).2.2.2.1[k].1 true = heardC c k hk shard true) := by
        show _ = _
        have h1 : (putI c.2.2.2.1[k].2.2.2 shard).length = sh.length := by rw [← HY5.out, hall, HNZ.out]
        rw [HHE.out]
        simp [logC, stateC, yesC, votedC, votedJ, addCh, HSE.out, h1]
      rw [HE.out] at HCH
      clear hall hI5
      go_wp2_with fail
      refine HCH.out.mono ?_
      rintro e w6 ⟨rfl, hP6⟩
      have HP : Hid (CoPost w X T pre post F (heardC c k hk shard true) w6) := by
        obtain ⟨ja', jn', jc', la', ln', lc', F', h1, h2, h3⟩ := hP6
        exact ⟨ja', jn', jc', la', ln', lc', F', h1, HFF.out.trans h2 (fun b hb => by
          rcases List.mem_cons.1 hb with e | e
          · exact .inl (by rw [e]; exact List.mem_cons_self)
          · rcases hfr b e with e2 | e2
            · exact .inl (List.mem_cons_of_mem _ e2)
            · exact .inr (by have := hb3.size; omega)), fun b hb => by
          rcases h3 b hb with e | e
          · rcases hfr b e with e2 | e2
            · exact .inl e2
            · exact .inr (by have := hb3.size; omega)
          · exact .inr (by have := HFF.out.size; omega)⟩
      clear HCH hP6
      go_wp2_with fail
      first | (refine bodyPost_end (v := .tuple #[]) ?_ rfl ⟨rfl, HP.out⟩) | (refine bodyPost_ret (v := .tuple #[]) ?_ rfl ⟨rfl, HP.out⟩)
      simp [results, Tryz.results52, go_sem]
    · have hq : ((yl : Int) == (ns : Int)) = false := by simp; omega
      have HE : Hid (yesC c k hk shard = heardC c k hk shard true) := by
        show _ = _
        have h1 : (putI c.2.2.2.1[k].2.2.2 shard).length ≠ sh.length := by rw [← HY5.out, HNZ.out]; exact hall
        rw [HHE.out]
        simp [yesC, votedC, votedJ, addCh, HSE.out, h1]
      have HP : Hid (CoPost w X T pre post F (heardC c k hk shard true) w5) := by
        show CoPost _ _ _ _ _ _ _ _
        rw [← HE.out]
        exact ⟨_, _, _, _, _, _, F5, hI5, HFF.out, fun b hb => by
          rcases hfr b hb with e2 | e2
          · exact .inl e2
          · exact .inr (by have := hb3.size; omega)⟩
      clear hall hI5
      go_wp2_with fail
      first | (refine bodyPost_end (v := .tuple #[]) ?_ rfl ⟨rfl, HP.out⟩) | (refine bodyPost_ret (v := .tuple #[]) ?_ rfl ⟨rfl, HP.out⟩)
      simp [results, Tryz.results52, go_sem]
end Go.Proofs.YtdeaiefhegjalaaGreat.cos
