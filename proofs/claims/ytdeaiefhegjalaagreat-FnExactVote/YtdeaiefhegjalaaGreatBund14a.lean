/- A region that draws its order, whose last operation waits for an operation only through others. No function of the program is named here. The program's Vote: the job that it is about. The program's one who decides: a choice is made. -/
import Derived.Test.YtdeaiefhegjalaaGreatBund12be
import Derived.Test.YtdeaiefhegjalaaGreatBund13l
import Derived.Test.YtdeaiefhegjalaaGreatBund13n
import Derived.Test.YtdeaiefhegjalaaGreatBund12bg
import Derived.Test.YtdeaiefhegjalaaGreatBund13k
namespace Go.Proofs.YtdeaiefhegjalaaGreat.last
open Go Go.RowKit
section
variable {P : Program} {ops : Array Oper} {md : Region.Mode} {Q : Exit → Act → World → Prop} {S : World → Prop} {z : Nat}

/-- each of ms, and z, waits for i or for one of ms -/
def Via (md : Region.Mode) (ops : Array Oper) (ms : List Nat) (z i : Nat) : Prop := ∀ m ∈ z :: ms, ∃ om, ops[m]? = some om ∧ ∃ e ∈ om.after, Region.binds md e = true ∧ (e.on = i ∨ e.on ∈ ms)
theorem via_out {ms : List Nat} {i : Nat} (hv : Via md ops ms z i) {listed : Array Bool} (hr : i ∈ Region.ready md ops listed) (hu : ∀ m ∈ ms, listed.getD m true = false) {j : Nat} (hj : j ∈ Region.ready md ops listed) : j ∉ z :: ms := fun hm => by
  obtain ⟨om, ho, e, he, hb, h⟩ := hv j hm
  rcases h with h | h
  · exact both_ready hr hj ho e he hb h
  · obtain ⟨_, oj, hoj, hall⟩ := mem_ready.1 hj
    rw [ho] at hoj
    cases hoj
    have h1 := hall e he hb
    have h2 := hu e.on h
    unfold Array.getD at h1 h2
    split at h1 <;> simp_all
theorem wpAnyL_firstV {i : Nat} {oi : Oper} {v : Value} {ms : List Nat} (hi : ops[i]? = some oi) (hsel : ∀ (j : Nat) (o : Oper) cs b, ops[j]? = some o → o.op ≠ .select cs b)
    (hQ : ∀ c a w, Q (.panic c) (a.put oi.dst v) w → Q (.panic c) a w) (hv : Via md ops ms z i) :
    ∀ (fuel : Nat) (listed : Array Bool) (a : Act) (w : World),
      (∀ j oj, ops[j]? = some oj → j ≠ i → listed.getD j true = false → (∀ e ∈ oj.after, Region.binds md e = true → e.on ≠ i) → oi.apart ops oj = true) →
      i ∈ Region.ready md ops listed → (∀ m ∈ ms, listed.getD m true = false) → YieldsIf P ops S oi v a → S w →
      wpAnyL P md ops Q S z fuel (listed.setIfInBounds i true) (a.put oi.dst v) w → wpAnyL P md ops Q S z (fuel + 1) listed a w := by
  intro fuel
  induction fuel with
  | zero =>
    intro listed a w _ hr hu hy hS H
    refine ⟨fun h => (by rw [h] at hr; cases hr), fun j hj => ?_⟩
    by_cases hji : j = i
    · subst hji; exact hy.wpOp hi hS ⟨fun _ => hS, H⟩
    · have := ready_mono hj hji
      rw [H.1] at this
      cases this
  | succ fuel ih =>
    intro listed a w hfree hr hu hy hS H
    refine ⟨fun h => (by rw [h] at hr; cases hr), fun j hj => ?_⟩
    by_cases hji : j = i
    · subst hji; exact hy.wpOp hi hS ⟨fun _ => hS, H⟩
    · have h1 := H.2 j (ready_mono hj hji)
      obtain ⟨hjun, oj, hoj, hall⟩ := mem_ready.1 hj
      have hnot : ∀ e ∈ oj.after, Region.binds md e = true → e.on ≠ i := both_ready hr hj hoj
      have h2 := wpOp_putIf hoj (hfree j oj hoj hji hjun hnot) (fun cs b => hsel i oi cs b hi) (fun cs b => hsel j oj cs b hoj) hQ hy h1
      have hfree' : ∀ k ok, ops[k]? = some ok → k ≠ i → (listed.setIfInBounds j true).getD k true = false →
          (∀ e ∈ ok.after, Region.binds md e = true → e.on ≠ i) → oi.apart ops ok = true := fun k ok hk hki hun hno => by
        refine hfree k ok hk hki ?_ hno
        by_cases hjk : j = k
        · subst hjk; exact hjun
        · rw [getD_set_ne true hjk] at hun; exact hun
      have hout := via_out hv hr hu hj
      have hjz : j ≠ z := fun e => hout (by rw [e]; exact List.mem_cons_self)
      have hu' : ∀ m ∈ ms, (listed.setIfInBounds j true).getD m true = false := fun m hm => by
        have hjm : j ≠ m := fun e => hout (by rw [e]; exact List.mem_cons_of_mem _ hm)
        rw [getD_set_ne true hjm]
        exact hu m hm
      refine wpOp_mono (fun a' w' h3 => ⟨h3.2.1, ih (listed.setIfInBounds j true) a' w' hfree' (ready_mono hr (Ne.symm hji)) hu' h3.1 (h3.2.1 hjz) ?_⟩) h2
      rw [Array.setIfInBounds_comm _ _ hji]
      exact h3.2.2
def viaB (md : Region.Mode) (ops : Array Oper) (listed : Array Bool) (ms : List Nat) (z i : Nat) : Bool :=
  ((z :: ms).all fun m => match ops[m]? with | none => false | some om => om.after.any fun e => Region.binds md e && (e.on == i || ms.contains e.on)) && ms.all fun m => !(listed.getD m true)
theorem viaB_spec {listed : Array Bool} {ms : List Nat} {i : Nat} (h : viaB md ops listed ms z i = true) : Via md ops ms z i ∧ ∀ m ∈ ms, listed.getD m true = false := by
  unfold viaB at h
  rw [Bool.and_eq_true, List.all_eq_true, List.all_eq_true] at h
  refine ⟨fun m hm => ?_, fun m hm => by simpa using h.2 m hm⟩
  have h1 := h.1 m hm
  cases ho : ops[m]? with
  | none => rw [ho] at h1; cases h1
  | some om =>
    rw [ho] at h1
    obtain ⟨e, he, hb⟩ := Array.any_eq_true'.1 h1
    simp only [Bool.and_eq_true, Bool.or_eq_true, beq_iff_eq, List.contains_iff_mem] at hb
    exact ⟨om, rfl, e, he, hb.1, hb.2⟩
theorem wpAnyL_via (ms : List Nat) {i : Nat} {oi : Oper} {v : Value} {fuel : Nat} {listed : Array Bool} {a : Act} {w : World} (hi : ops[i]? = some oi)
    (hs : Region.noSelect ops = true) (hf : Region.free md ops listed i = true) (hr : (Region.ready md ops listed).contains i = true) (hw : viaB md ops listed ms z i = true)
    (hQ : ∀ c a w, Q (.panic c) (a.put oi.dst v) w → Q (.panic c) a w) (hy : YieldsIf P ops S oi v a) (hS : S w)
    (h : wpAnyL P md ops Q S z fuel (listed.setIfInBounds i true) (a.put oi.dst v) w) : wpAnyL P md ops Q S z (fuel + 1) listed a w := by
  obtain ⟨h1, h2⟩ := viaB_spec hw
  exact wpAnyL_firstV hi (Region.noSelect_spec hs) hQ h1 fuel listed a w (Region.free_spec hi hf) (by simpa using hr) h2 hy hS h
end
end Go.Proofs.YtdeaiefhegjalaaGreat.last

namespace Go.Proofs.YtdeaiefhegjalaaGreat.cos
open Go Go.RowKit Go.Proofs.YtdeaiefhegjalaaGreat.base Go.Proofs.YtdeaiefhegjalaaGreat.pairs Go.Proofs.YtdeaiefhegjalaaGreat.ords Go.Proofs.YtdeaiefhegjalaaGreat.lay Go.Proofs.YtdeaiefhegjalaaGreat.wds
set_option linter.unusedVariables false
set_option linter.unusedSimpArgs false

/-- the first job of tx that asks -/
def askAt (l : List Jb) (tx : Int) : Option Nat := l.findIdx? fun j => decide (j.1 = tx) && decide (j.2.2.1 = 1)
theorem askAt_first {l : List Jb} {tx : Int} {k : Nat} (hk : k < l.length) (h1 : l[k].1 = tx) (h2 : l[k].2.2.1 = 1) (h : ∀ i (hi : i < k), (decide ((l[i]'(by omega)).1 = tx) && decide ((l[i]'(by omega)).2.2.1 = 1)) = false) : askAt l tx = some k := by
  unfold askAt
  rw [List.findIdx?_eq_some_iff_getElem]
  refine ⟨hk, by simp [h1, h2], fun i hi => ?_⟩
  have := h i hi
  simp only [this]
  decide
/-- where the numbers rise, the job that asks is the job of tx -/
theorem askAt_votes {c : Co} (hR : RightCo c) {shard tx : Int} : votes c shard tx = match askAt c.2.2.2.1 tx with
    | none => none
    | some k => match c.2.2.2.1[k]? with
      | none => none
      | some j => if c.2.2.2.2.1.length < 1000 ∧ shard ∈ shardsOf c.1 j.2.1 then some k else none := by
  have hrise := hR.rise
  unfold votes
  cases e : jobAt c.2.2.2.1 tx with
  | none =>
    have hno : ∀ i (hi : i < c.2.2.2.1.length), c.2.2.2.1[i].1 ≠ tx := fun i hi h => by
      unfold jobAt at e
      rw [List.findIdx?_eq_none_iff] at e
      have := e _ (List.getElem_mem hi)
      simp [h] at this
    have : askAt c.2.2.2.1 tx = none := findIdx_none fun i hi => by simp [hno i hi]
    rw [this]
  | some k =>
    obtain ⟨hk, h1, hb⟩ := findIdx_some e
    replace h1 : c.2.2.2.1[k].1 = tx := of_decide_eq_true h1
    simp only [List.getElem?_eq_getElem hk]
    by_cases h2 : c.2.2.2.1[k].2.2.1 = 1
    · have : askAt c.2.2.2.1 tx = some k := askAt_first hk h1 h2 fun i hi => by
        have := hb i hi
        simp only [this, Bool.false_and]
      rw [this]
      simp only [List.getElem?_eq_getElem hk, h2, true_and]
    · have : askAt c.2.2.2.1 tx = none := findIdx_none fun i hi => by
        by_cases hik : i = k
        · subst hik; simp [h2]
        · have := rise_unlike hrise hi hk hik
          rw [h1] at this
          simp [this]
      rw [this, if_neg (fun h => h2 h.1)]
set_option maxRecDepth 100000 in
set_option maxHeartbeats 1000000 in
theorem i_asking (X : Nat) (ja : Option Addr) (jn jc : Nat) (l : List Jb) (tx : Int) (w : World) (h3 : w.cell? ⟨X, 3, none⟩ = some (.slice ja jn jc)) (h : SlG jobR w ja jn l) (hn : jn ≤ 1099511627776) :
    Calls Tryz.prog 51 #[.pointer (some ⟨X, 0, none⟩), .int .i64 tx] w fun e w' => w' = w ∧ ((askAt l tx = none ∧ e = .returned (.pointer none)) ∨ ∃ k b off, askAt l tx = some k ∧ k < l.length ∧ ja = some ⟨b, off, none⟩ ∧ e = .returned (.pointer (some ⟨b, off + k * 4, none⟩))) := by
  have hl := h.1
  have HL := Hid.mk' hl
  clear hl
  go_enter Tryz.func51, Tryz.ntmps51
  go_wp2_with fail
  go_loop [12] (fun i => ∃ k : Nat, k ≤ jn ∧ i = .int .i64 (k : Int) ∧ ∀ j (hj : j < k) (hl : j < l.length), (decide (l[j].1 = tx) && decide (l[j].2.2.1 = 1)) = false) (fun i => jn - (intOf i).toNat)
  case atStart => exact ⟨0, Nat.zero_le _, rfl, fun j hj => absurd hj (Nat.not_lt_zero _)⟩
  case round =>
    obtain ⟨k, hk, rfl, hno⟩ := hrel
    by_cases hlt : k < jn
    · have hki : (k : Int) < (jn : Int) := by omega
      have hkl : k < l.length := by rw [HL.out]; exact hlt
      obtain ⟨b, off, hja, _⟩ := h.2.2.2 (by omega)
      subst hja
      obtain ⟨c0, c2, _, _⟩ := job_at h k hkl
      have HNO := Hid.mk' hno
      clear hno
      by_cases e1 : l[k].1 = tx
      · have d1 : (l[k].1 == tx) = true := beq_iff_eq.2 e1
        by_cases e2 : l[k].2.2.1 = 1
        · have d2 : (l[k].2.2.1 == 1) = true := beq_iff_eq.2 e2
          have HA := Hid.mk' (askAt_first hkl e1 e2 (fun i hi => HNO.out i hi (by omega)))
          clear e1 e2
          go_wp2_with fail
          go_ret
          exact ⟨rfl, .inr ⟨k, HA.out, hkl, b, off, ⟨rfl, rfl⟩, by simp⟩⟩
        · have d2 : (l[k].2.2.1 == 1) = false := beq_eq_false_iff_ne.2 e2
          have HE : Hid ((decide (l[k].1 = tx) && decide (l[k].2.2.1 = 1)) = false) := by show _ = _; simp [e2]
          clear e1 e2
          go_wp2_with fail
          go_round
          case rel =>
            refine ⟨k + 1, by omega, by go_num, fun j hj hl => ?_⟩
            by_cases hjk : j = k
            · subst hjk; exact HE.out
            · exact HNO.out j (by omega) hl
          case measure => simp [intOf]; omega
      · have d1 : (l[k].1 == tx) = false := beq_eq_false_iff_ne.2 e1
        have HE : Hid ((decide (l[k].1 = tx) && decide (l[k].2.2.1 = 1)) = false) := by show _ = _; simp [e1]
        clear e1
        go_wp2_with fail
        go_round
        case rel =>
          refine ⟨k + 1, by omega, by go_num, fun j hj hl => ?_⟩
          by_cases hjk : j = k
          · subst hjk; exact HE.out
          · exact HNO.out j (by omega) hl
        case measure => simp [intOf]; omega
    · have hki : ¬ (k : Int) < (jn : Int) := by omega
      have HN : Hid (askAt l tx = none) := findIdx_none fun i hi => hno i (by have := HL.out; omega) hi
      clear hno
      go_wp2_with fail
      go_ret
      exact ⟨rfl, .inl ⟨HN.out, rfl⟩⟩
end Go.Proofs.YtdeaiefhegjalaaGreat.cos

namespace Go.Proofs.YtdeaiefhegjalaaGreat.cos
open Go Go.RowKit Go.Proofs.YtdeaiefhegjalaaGreat.base Go.Proofs.YtdeaiefhegjalaaGreat.pairs Go.Proofs.YtdeaiefhegjalaaGreat.ords Go.Proofs.YtdeaiefhegjalaaGreat.lay Go.Proofs.YtdeaiefhegjalaaGreat.wds
set_option linter.unusedVariables false
set_option linter.unusedSimpArgs false

/-- one who decides, with the job at k in another state -/
def stateC (c : Co) (k : Nat) (hk : k < c.2.2.2.1.length) (st : Int) : Co := (c.1, c.2.1, c.2.2.1, c.2.2.2.1.set k (c.2.2.2.1[k].1, c.2.2.2.1[k].2.1, st, c.2.2.2.1[k].2.2.2), c.2.2.2.2.1, c.2.2.2.2.2)
/-- one who decides, with one more choice -/
def logC (c : Co) (tx : Int) (y : Bool) : Co := (c.1, c.2.1, c.2.2.1, c.2.2.2.1, c.2.2.2.2.1 ++ [(tx, y)], c.2.2.2.2.2)
theorem CoPost.trans {w w' U : World} {X : Nat} {T : TypeId} {pre post : List Value} {c : Co} {F : List Nat} (hF : lay.Frame (X :: F) w w') (h : CoPost w' X T pre post F c U) : CoPost w X T pre post F c U := by
  obtain ⟨ja, jn, jc, la, ln, lc, F', h1, h2, h3⟩ := h
  exact ⟨ja, jn, jc, la, ln, lc, F', h1, hF.trans h2 (Fresh.refl _ _), (Fresh.refl w F).trans h3 hF.size⟩
/-- a state is laid into a job -/
theorem InCo.state {w : World} {X : Nat} {T : TypeId} {pre post : List Value} {gj jn jc : Nat} {la : Option Addr} {ln lc : Nat} {c : Co} {F : List Nat} (h : InCo w X T pre post (some ⟨gj, 0, none⟩) jn jc la ln lc c F) (k : Nat) (hk : k < c.2.2.2.1.length) (st : Int) (hst : (Lit.int .i64 st).wf = true) :
    InCo (w.setCell ⟨gj, k * 4 + 2, none⟩ (.int .i64 st)) X T pre post (some ⟨gj, 0, none⟩) jn jc la ln lc (stateC c k hk st) F ∧ lay.Frame (X :: F) w (w.setCell ⟨gj, k * 4 + 2, none⟩ (.int .i64 st)) := by
  obtain ⟨hbx, hown, hXF⟩ := h
  obtain ⟨vx, vy, F1, F2, e, hwf, hj, hl, hFe, hnd⟩ := coord_own.1 hown
  simp only [List.cons.injEq, and_true, true_and] at e
  obtain ⟨rfl, rfl⟩ := e
  obtain ⟨vj, qj, e, hF1, hJ⟩ := hj
  simp only [List.cons.injEq, and_true] at e
  subst e
  obtain ⟨q', hJ4, hq, hg⟩ := hJ.cell1 k hk 2 (by decide) (.int .i64 st) (c.2.2.2.1[k].1, c.2.2.2.1[k].2.1, st, c.2.2.2.1[k].2.2.2) (fun vs FK hu => by
    obtain ⟨v1, v2, e, k1, k3, h1, h2, h3, h4⟩ := job_own.1 hu
    exact job_own.2 ⟨v1, v2, by rw [e]; rfl, k1, hst, h1, h2, h3, h4⟩)
  rw [show k * jobR.size + 2 = k * 4 + 2 from rfl] at hJ4 hg
  have hgj1 : gj ∈ F1 := by rw [hF1]; exact List.mem_append.2 (.inl (by simp [Value.ownBlock]))
  have hgjF : gj ∈ F := by rw [hFe]; exact List.mem_append.2 (.inl hgj1)
  have hXj : gj ≠ X := fun e => hXF (e ▸ hgjF)
  have hnd' := hnd
  rw [hFe] at hnd'
  have hl4 := logR.ownAt hl fun b hb => hg.block b (logR.ownLt hl b hb) (fun e => (nodup_parts hnd').2.2 gj hgj1 (Option.some.inj e ▸ hb))
  refine ⟨⟨hbx.grown hg (fun e => hXj (Option.some.inj e).symm), coord_own.2 ⟨_, _, F1, F2, rfl, ⟨hwf.n, hwf.life, hwf.next, hwf.sure⟩, ⟨_, q', rfl, by rw [hF1, hq], hJ4⟩, hl4, hFe, hnd⟩, hXF⟩, lay.Frame.of_grown hg (fun b e => by cases e; exact .inl (List.mem_cons_of_mem _ hgjF))⟩
theorem jobs_tx {w : World} {gj jn jc : Nat} {l : List Jb} {F1 : List Nat} (hj : jobsR.own w [.slice (some ⟨gj, 0, none⟩) jn jc] l F1) (k : Nat) (hk : k < l.length) : w.cell? ⟨gj, k * 4, none⟩ = some (.int .i64 l[k].1) ∧ (∃ z, w.cell? ⟨gj, k * 4 + 2, none⟩ = some z) ∧ (∀ i, w.frozen? ⟨gj, i, none⟩ = false) ∧ (Lit.int .i64 l[k].1).wf = true := by
  obtain ⟨vj, qj, e, hF1, hJ⟩ := hj
  simp only [List.cons.injEq, and_true] at e
  subst e
  obtain ⟨us, FK, hu, hcl, hFK, -⟩ := hJ.openF k hk
  obtain ⟨v1, v2, e, k1, k3, h1, h2, h3, h4⟩ := job_own.1 hu
  subst e
  have d0 := hcl 0 _ rfl
  have d2 := hcl 2 _ rfl
  rw [show k * jobR.size + 2 = k * 4 + 2 from rfl] at d2
  rw [show k * jobR.size + 0 = k * 4 from rfl] at d0
  exact ⟨d0, ⟨_, d2⟩, fun i => hJ.frozen i, k1⟩
/-- a choice is appended -/
theorem InCo.choice {w : World} {X : Nat} {T : TypeId} {pre post : List Value} {ja : Option Addr} {jn jc : Nat} {la : Option Addr} {ln lc : Nat} {c : Co} {F : List Nat} (h : InCo w X T pre post ja jn jc la ln lc c F) (tx : Int) (y : Bool) (htw : (Lit.int .i64 tx).wf = true) (hln : c.2.2.2.2.1.length ≤ 1048576) :
    ∃ gl cap' w6, (Builtin.append_ #[31, 31] 31 #[.slice la ln lc, .slice (some ⟨w.heap.size, 0, none⟩) 1 1]).run Tryz.prog (w.alloc (.cells #[.int .i64 tx, .bool y] 74)) = .ok (.slice (some ⟨gl, 0, none⟩) (ln + 1) cap') w6 ∧ BoxIn X T pre [.int .i64 c.1, .int .i64 c.2.1, .int .i64 c.2.2.1, .slice ja jn jc, .slice la ln lc, .int .i64 c.2.2.2.2.2] post w6 ∧ (∃ F1, jobsR.own w6 [.slice ja jn jc] c.2.2.2.1 F1) ∧ CoPost w X T pre post F (logC c tx y) (w6.setCell ⟨X, pre.length + 4, none⟩ (.slice (some ⟨gl, 0, none⟩) (ln + 1) cap')) := by
  obtain ⟨hbx, hown, hXF⟩ := h
  obtain ⟨vx, vy, F1, F2, e, hwf, hj, hl, hFe, hnd⟩ := coord_own.1 hown
  simp only [List.cons.injEq, and_true, true_and] at e
  obtain ⟨rfl, rfl⟩ := e
  obtain ⟨⟨ql, hL⟩, rfl⟩ := logs_own.1 hl
  have hXlb : X ∉ (Value.slice la ln lc).ownBlock.toList := fun e => hXF (by rw [hFe]; exact List.mem_append.2 (.inr e))
  have hnd' := hnd
  rw [hFe] at hnd'
  have hjlb := (nodup_parts hnd').2.2
  have hFlt := coordR.ownLt hown
  obtain ⟨gl, lcap, w6, hrun, hX6, hX7, hl7, hF7, hgl, hglX⟩ := add_choice hbx hL hXlb tx y htw hln
  have hS := (hX6.set 4 (by simp) (.slice (some ⟨gl, 0, none⟩) (ln + 1) lcap)).2
  have hs6 : w.heap.size ≤ w6.heap.size := by have := hF7.size; simp at this; exact this
  have hJ6 : jobsR.own w6 [.slice ja jn jc] c.2.2.2.1 F1 := jobsR.ownAt hj fun b hb => by
    have hbw := jobsR.ownLt hj b hb
    have hbX : b ≠ X := fun e => hXF (by rw [hFe, ← e]; exact List.mem_append.2 (.inl hb))
    have h7 := hF7.block b hbw (fun e => by
      rcases List.mem_cons.1 e with e | e
      · exact hbX e
      · exact hjlb b hb e)
    have h8 := hS.block b (by omega) (fun e => hbX (by simpa using e))
    rw [← h7, h8]
  refine ⟨gl, lcap, w6, hrun, hX6, ⟨_, hJ6⟩, ?_⟩
  have hJ7 := jobsR.ownAt hj fun b hb => hF7.block b (jobsR.ownLt hj b hb) (fun e => by
    rcases List.mem_cons.1 e with e | e
    · exact hXF (by rw [hFe, ← e]; exact List.mem_append.2 (.inl hb))
    · exact hjlb b hb e)
  have hFU : lay.Frame (X :: F) w (w6.setCell ⟨X, pre.length + 4, none⟩ (.slice (some ⟨gl, 0, none⟩) (ln + 1) lcap)) := (lay.Frame.refl _ w).trans hF7 (fun b hb => by
    rcases List.mem_cons.1 hb with e | e
    · exact .inl (by rw [e]; exact List.mem_cons_self)
    · exact .inl (List.mem_cons_of_mem _ (by rw [hFe]; exact List.mem_append.2 (.inr e))))
  refine co_post (c := logC c tx y) (F1 := F1) (F2 := (Value.slice la ln lc).ownBlock.toList) hX7 hJ7 hl7 hFU ⟨hwf.n, hwf.life, hwf.next, hwf.sure⟩ (fun b hb => .inl hb) (fun b hb => by
    rw [List.mem_singleton] at hb
    subst hb
    exact hgl) (fun b hb hb2 => by
    rw [List.mem_singleton] at hb2
    subst hb2
    rcases hgl with e | e
    · exact hjlb b hb e
    · have := jobsR.ownLt hj b hb; omega) (fun e => hXF (by rw [hFe]; exact List.mem_append.2 (.inl e))) (fun e => by
    rw [List.mem_singleton] at e
    exact hglX e.symm) hFe
/-- the number of the job at k, as it lies -/
theorem InCo.jobTx {w : World} {X : Nat} {T : TypeId} {pre post : List Value} {gj jn jc : Nat} {la : Option Addr} {ln lc : Nat} {c : Co} {F : List Nat} (h : InCo w X T pre post (some ⟨gj, 0, none⟩) jn jc la ln lc c F) (k : Nat) (hk : k < c.2.2.2.1.length) : w.cell? ⟨gj, k * 4, none⟩ = some (.int .i64 c.2.2.2.1[k].1) ∧ (∃ z, w.cell? ⟨gj, k * 4 + 2, none⟩ = some z) ∧ (∀ i, w.frozen? ⟨gj, i, none⟩ = false) ∧ (Lit.int .i64 c.2.2.2.1[k].1).wf = true := by
  obtain ⟨vx, vy, F1, F2, e, hwf, hj, hl, hFe, hnd⟩ := coord_own.1 h.own
  simp only [List.cons.injEq, and_true, true_and] at e
  obtain ⟨rfl, rfl⟩ := e
  exact jobs_tx hj k hk
set_option maxRecDepth 100000 in
set_option maxHeartbeats 2000000 in
theorem i_choose (X : Nat) (T : TypeId) (pre post : List Value) (gj jn jc : Nat) (la : Option Addr) (ln lc : Nat) (c : Co) (F : List Nat) (k : Nat) (hk : k < c.2.2.2.1.length) (yes : Bool) (w : World) (h : InCo w X T pre post (some ⟨gj, 0, none⟩) jn jc la ln lc c F) (hln : c.2.2.2.2.1.length ≤ 1048576) :
    Calls Tryz.prog 87 #[.pointer (some ⟨X, pre.length, none⟩), .pointer (some ⟨gj, k * 4, none⟩), .bool yes] w fun e w' => e = .returned (.tuple #[]) ∧ CoPost w X T pre post F (logC (stateC c k hk (if yes = true then 2 else 3)) c.2.2.2.1[k].1 yes) w' := by
  obtain ⟨d0, ⟨z2, d2⟩, f2, htw⟩ := h.jobTx k hk
  have g2 := f2 (k * 4 + 2)
  obtain ⟨h1, hF1⟩ := h.state k hk 3 (by decide)
  obtain ⟨W1, hW1⟩ : ∃ W1, w.setCell ⟨gj, k * 4 + 2, none⟩ (.int .i64 3) = W1 := ⟨_, rfl⟩
  rw [hW1] at h1 hF1
  obtain ⟨W, HW, hI, hFW, hsz⟩ : ∃ W, Hid (W = if yes = true then W1.setCell ⟨gj, k * 4 + 2, none⟩ (.int .i64 2) else W1) ∧ InCo W X T pre post (some ⟨gj, 0, none⟩) jn jc la ln lc (stateC c k hk (if yes = true then 2 else 3)) F ∧ lay.Frame (X :: F) w W ∧ W.heap.size = w.heap.size := by
    have hs1 : W1.heap.size = w.heap.size := by rw [← hW1]; simp
    cases yes
    · exact ⟨W1, (by show _ = _; simp), h1, hF1, hs1⟩
    · obtain ⟨h2, hF2⟩ := h1.state k (by simpa [stateC] using hk) 2 (by decide)
      refine ⟨_, (by show _ = _; rw [if_pos rfl]), ?_, hF1.trans hF2 (Fresh.refl _ _), by simp [hs1]⟩
      have e : stateC (stateC c k hk 3) k (by simpa [stateC] using hk) 2 = stateC c k hk 2 := by simp [stateC]
      rw [e] at h2
      exact h2
  have hk' : k < (stateC c k hk (if yes = true then 2 else 3)).2.2.2.1.length := by simpa [stateC] using hk
  have htx : (stateC c k hk (if yes = true then 2 else 3)).2.2.2.1[k].1 = c.2.2.2.1[k].1 := by simp [stateC]
  obtain ⟨z1, d1⟩ := (h1.jobTx k (by simpa [stateC] using hk)).2.1
  have g1 := (h1.jobTx k (by simpa [stateC] using hk)).2.2.1 (k * 4 + 2)
  have hdW : Below W.heap.size W W.drew := (Below.refl _ _).drew
  have hId := hI.below hdW
  obtain ⟨gl, lcap, w6, hrun, hX6, ⟨FJ, hJ6⟩, hP⟩ := hId.choice c.2.2.2.1[k].1 yes htw hln
  have HP := Hid.mk' (CoPost.trans hFW (CoPost.trans (lay.Frame.of_below hdW) hP))
  have e6 := (jobs_tx hJ6 k hk').1
  rw [htx] at e6
  have eD := (hId.jobTx k hk').1
  rw [htx] at eD
  have hXD := hId.box
  obtain ⟨V, hV⟩ : ∃ V, W.drew.alloc (.cells #[.int .i64 c.2.2.2.1[k].1, .bool yes] 74) = V := ⟨_, rfl⟩
  have hbv : Below W.drew.heap.size W.drew V := by rw [← hV]; exact below_make
  have eV := (hbv.cell (p := ⟨gj, k * 4, none⟩) (World.block_lt_of_cell? _ _ eD)).trans eD
  have hXV := hXD.below hbv
  obtain ⟨U, hU⟩ : ∃ U, w6.setCell ⟨X, pre.length + 4, none⟩ (.slice (some ⟨gl, 0, none⟩) (ln + 1) lcap) = U := ⟨_, rfl⟩
  rw [hU] at HP
  have HU := Hid.mk' hU
  have HVV := Hid.mk' hV
  rw [hV] at hrun
  have HW1 := Hid.mk' hW1
  rw [← hW1] at d1 g1
  have htxw := htw
  clear hU hV hP hId hI h1 hF1 hFW hJ6 h hW1 htx hbv hsz hk'
  generalize hST : stateC c k hk (if yes = true then 2 else 3) = S at *
  generalize c.2.2.2.1[k].1 = tx at *
  obtain ⟨sn, sl, sx, sj, slog, ssu⟩ := S
  simp only [] at hXD hXV hX6
  clear hST
  cases yes
  · rw [if_neg (by decide)] at HW
    go_enter Tryz.func87, Tryz.ntmps87
    go_wp2_with fail
    rw [HW1.out, ← HW.out]
    refine last.wp_region_later (S := fun w' => w'.cell? ⟨gj, k * 4, none⟩ = some (.int .i64 tx) ∧ BoxIn X T pre [.int .i64 sn, .int .i64 sl, .int .i64 sx, .slice (some ⟨gj, 0, none⟩) jn jc, .slice la ln lc, .int .i64 ssu] post w') 15 (by kernel_rfl) ⟨eD, hXD⟩ (fun hHeld0 => ?_)
    generalize hD : W.drew = D at *
    clear hD
    refine last.wpAnyL_take (i := 0) (v := (.pointer (some ⟨X, pre.length, none⟩))) rfl rfl (by kernel_rfl) (by kernel_rfl) (by kernel_rfl) (by kernel_rfl) (fun _ _ _ h => h) (Or.inl ⟨by rfl, ?_⟩) (by assumption) ?_
    · intro wq hSq; go_simp
    try simp only [Act.put, List.setIfInBounds_toArray, List.set_cons_zero, List.set_cons_succ]
    refine last.wpAnyL_take (i := 1) (v := (.pointer (some ⟨X, pre.length, none⟩))) rfl rfl (by kernel_rfl) (by kernel_rfl) (by kernel_rfl) (by kernel_rfl) (fun _ _ _ h => h) (Or.inl ⟨by rfl, ?_⟩) (by assumption) ?_
    · intro wq hSq; go_simp
    try simp only [Act.put, List.setIfInBounds_toArray, List.set_cons_zero, List.set_cons_succ]
    refine last.wpAnyL_take (i := 2) (v := (.pointer (some ⟨X, pre.length, none⟩))) rfl rfl (by kernel_rfl) (by kernel_rfl) (by kernel_rfl) (by kernel_rfl) (fun _ _ _ h => h) (Or.inl ⟨by rfl, ?_⟩) (by assumption) ?_
    · intro wq hSq; go_simp
    try simp only [Act.put, List.setIfInBounds_toArray, List.set_cons_zero, List.set_cons_succ]
    refine last.wpAnyL_take (i := 3) (v := (.pointer (some ⟨X, pre.length + 4, none⟩))) rfl rfl (by kernel_rfl) (by kernel_rfl) (by kernel_rfl) (by kernel_rfl) (fun _ _ _ h => h) (Or.inl ⟨by rfl, ?_⟩) (by assumption) ?_
    · intro wq hSq; go_simp
    try simp only [Act.put, List.setIfInBounds_toArray, List.set_cons_zero, List.set_cons_succ]
    refine last.wpAnyL_take (i := 4) (v := (.slice la ln lc)) rfl rfl (by kernel_rfl) (by kernel_rfl) (by kernel_rfl) (by kernel_rfl) (fun _ _ _ h => h) (Or.inl ⟨by rfl, ?_⟩) (by assumption) ?_
    · intro wq hSq; have q := hSq.2.cell 4 _ rfl; go_simp
    try simp only [Act.put, List.setIfInBounds_toArray, List.set_cons_zero, List.set_cons_succ]
    refine last.wpAnyL_take (i := 5) (v := (.pointer (some ⟨gj, k * 4, none⟩))) rfl rfl (by kernel_rfl) (by kernel_rfl) (by kernel_rfl) (by kernel_rfl) (fun _ _ _ h => h) (Or.inl ⟨by rfl, ?_⟩) (by assumption) ?_
    · intro wq hSq; go_simp
    try simp only [Act.put, List.setIfInBounds_toArray, List.set_cons_zero, List.set_cons_succ]
    refine last.wpAnyL_take (i := 6) (v := (.pointer (some ⟨gj, k * 4, none⟩))) rfl rfl (by kernel_rfl) (by kernel_rfl) (by kernel_rfl) (by kernel_rfl) (fun _ _ _ h => h) (Or.inl ⟨by rfl, ?_⟩) (by assumption) ?_
    · intro wq hSq; go_simp
    try simp only [Act.put, List.setIfInBounds_toArray, List.set_cons_zero, List.set_cons_succ]
    refine last.wpAnyL_take (i := 7) (v := (.pointer (some ⟨gj, k * 4, none⟩))) rfl rfl (by kernel_rfl) (by kernel_rfl) (by kernel_rfl) (by kernel_rfl) (fun _ _ _ h => h) (Or.inl ⟨by rfl, ?_⟩) (by assumption) ?_
    · intro wq hSq; go_simp
    try simp only [Act.put, List.setIfInBounds_toArray, List.set_cons_zero, List.set_cons_succ]
    refine last.wpAnyL_take (i := 8) (v := (.int .i64 tx)) rfl rfl (by kernel_rfl) (by kernel_rfl) (by kernel_rfl) (by kernel_rfl) (fun _ _ _ h => h) (Or.inl ⟨by rfl, ?_⟩) (by assumption) ?_
    · intro wq hSq; have q := hSq.1; go_simp
    try simp only [Act.put, List.setIfInBounds_toArray, List.set_cons_zero, List.set_cons_succ]
    refine last.wpAnyL_take (i := 9) (v := (.bool false)) rfl rfl (by kernel_rfl) (by kernel_rfl) (by kernel_rfl) (by kernel_rfl) (fun _ _ _ h => h) (Or.inl ⟨by rfl, ?_⟩) (by assumption) ?_
    · intro wq hSq; go_simp
    try simp only [Act.put, List.setIfInBounds_toArray, List.set_cons_zero, List.set_cons_succ]
    refine last.wpAnyL_take (i := 10) (v := (.agg #[.int .i64 tx, .bool false])) rfl rfl (by kernel_rfl) (by kernel_rfl) (by kernel_rfl) (by kernel_rfl) (fun _ _ _ h => h) (Or.inl ⟨by rfl, ?_⟩) (by assumption) ?_
    · intro wq hSq; go_simp
    try simp only [Act.put, List.setIfInBounds_toArray, List.set_cons_zero, List.set_cons_succ]
    refine last.wpAnyL_one (i := 11) (o := { dst := some 24, op := Op.buildSlice 31 1 #[(0, Operand.tmp 23)], type := 31, pos := "l11_coord.go:229", after := #[{ on := 10, ground := Ground.data }], guard := none }) (by kernel_rfl) rfl (fun K hK => ?_)
    go_simp
    rw [HVV.out]
    refine hK.out _ _ ?_ (fun hHeld => ?_)
    · exact ⟨eV, hXV⟩
    clear hK K hHeld0
    have hHeld0 := hHeld
    clear hHeld
    try simp only [Act.put, List.setIfInBounds_toArray, List.set_cons_zero, List.set_cons_succ]
    refine last.wpAnyL_one (i := 12) (o := { dst := some 25, op := Op.call { callee := Callee.builtin Builtin.append, args := #[Operand.tmp 17, Operand.tmp 24], argTypes := #[31, 31] }, type := 31, pos := "l11_coord.go:229", after := #[{ on := 4, ground := Ground.data }, { on := 11, ground := Ground.data }], guard := none }) (by kernel_rfl) rfl (fun K hK => ?_)
    refine step_append_run rfl (.tmp 17) (.tmp 24) 31 rfl (by kernel_rfl) (by kernel_rfl) hrun ?_
    refine hK.out _ _ ?_ (fun hHeld => ?_)
    · exact ⟨e6, hX6⟩
    clear hK K hHeld0
    have hHeld0 := hHeld
    clear hHeld
    try simp only [Act.put, List.setIfInBounds_toArray, List.set_cons_zero, List.set_cons_succ]
    refine last.wpAnyL_one (i := 13) (o := { dst := some 26, op := Op.nilCheck (Operand.tmp 13), type := 0, pos := "l11_coord.go:229", after := #[{ on := 0, ground := Ground.data }, { on := 0, ground := Ground.phase }, { on := 1, ground := Ground.phase }, { on := 2, ground := Ground.phase }, { on := 3, ground := Ground.phase }, { on := 4, ground := Ground.phase }, { on := 5, ground := Ground.phase }, { on := 6, ground := Ground.phase }, { on := 7, ground := Ground.phase }, { on := 8, ground := Ground.phase }, { on := 9, ground := Ground.phase }, { on := 10, ground := Ground.phase }, { on := 11, ground := Ground.phase }, { on := 12, ground := Ground.phase }], guard := none }) (by kernel_rfl) rfl (fun K hK => ?_)
    go_simp
    refine hK.out _ _ ?_ (fun hHeld => ?_)
    · exact ⟨e6, hX6⟩
    clear hK K hHeld0
    have hHeld0 := hHeld
    clear hHeld
    try simp only [Act.put, List.setIfInBounds_toArray, List.set_cons_zero, List.set_cons_succ]
    refine last.wpAnyL_one (i := 14) (o := { dst := some 27, op := Op.fieldAddr 33 (Operand.tmp 26) 4, type := 0, pos := "l11_coord.go:229", after := #[{ on := 13, ground := Ground.data }, { on := 0, ground := Ground.phase }, { on := 1, ground := Ground.phase }, { on := 2, ground := Ground.phase }, { on := 3, ground := Ground.phase }, { on := 4, ground := Ground.phase }, { on := 5, ground := Ground.phase }, { on := 6, ground := Ground.phase }, { on := 7, ground := Ground.phase }, { on := 8, ground := Ground.phase }, { on := 9, ground := Ground.phase }, { on := 10, ground := Ground.phase }, { on := 11, ground := Ground.phase }, { on := 12, ground := Ground.phase }], guard := none }) (by kernel_rfl) rfl (fun K hK => ?_)
    go_simp
    refine hK.out _ _ ?_ (fun hHeld => ?_)
    · exact ⟨e6, hX6⟩
    clear hK K hHeld0
    have hHeld0 := hHeld
    clear hHeld
    try simp only [Act.put, List.setIfInBounds_toArray, List.set_cons_zero, List.set_cons_succ]
    have t4 := hX6.cell 4 _ rfl
    have t4f := hX6.fz (pre.length + 4)
    refine last.wpAnyL_last (o := { dst := none, op := Op.store 31 (Operand.tmp 27) (Operand.tmp 25), type := 0, pos := "l11_coord.go:229", after := #[{ on := 14, ground := Ground.data }, { on := 12, ground := Ground.data }, { on := 12, ground := Ground.chain }, { on := 0, ground := Ground.phase }, { on := 1, ground := Ground.phase }, { on := 2, ground := Ground.phase }, { on := 3, ground := Ground.phase }, { on := 4, ground := Ground.phase }, { on := 5, ground := Ground.phase }, { on := 6, ground := Ground.phase }, { on := 7, ground := Ground.phase }, { on := 8, ground := Ground.phase }, { on := 9, ground := Ground.phase }, { on := 10, ground := Ground.phase }, { on := 11, ground := Ground.phase }, { on := 12, ground := Ground.phase }], guard := none }) (by kernel_rfl) rfl (by kernel_rfl) (fun K hK => ?_)
    go_simp
    refine hK.out _ _ ?_
    clear hK K
    rw [HU.out]
    first | (refine bodyPost_end (v := .tuple #[]) ?_ rfl ⟨rfl, HP.out⟩) | (refine bodyPost_ret (v := .tuple #[]) ?_ rfl ⟨rfl, HP.out⟩)
    simp [results, Tryz.results87, go_sem]
  · rw [if_pos rfl] at HW
    go_enter Tryz.func87, Tryz.ntmps87
    go_wp2_with fail
    rw [HW1.out, ← HW.out]
    refine last.wp_region_later (S := fun w' => w'.cell? ⟨gj, k * 4, none⟩ = some (.int .i64 tx) ∧ BoxIn X T pre [.int .i64 sn, .int .i64 sl, .int .i64 sx, .slice (some ⟨gj, 0, none⟩) jn jc, .slice la ln lc, .int .i64 ssu] post w') 15 (by kernel_rfl) ⟨eD, hXD⟩ (fun hHeld0 => ?_)
    generalize hD : W.drew = D at *
    clear hD
    refine last.wpAnyL_take (i := 0) (v := (.pointer (some ⟨X, pre.length, none⟩))) rfl rfl (by kernel_rfl) (by kernel_rfl) (by kernel_rfl) (by kernel_rfl) (fun _ _ _ h => h) (Or.inl ⟨by rfl, ?_⟩) (by assumption) ?_
    · intro wq hSq; go_simp
    try simp only [Act.put, List.setIfInBounds_toArray, List.set_cons_zero, List.set_cons_succ]
    refine last.wpAnyL_take (i := 1) (v := (.pointer (some ⟨X, pre.length, none⟩))) rfl rfl (by kernel_rfl) (by kernel_rfl) (by kernel_rfl) (by kernel_rfl) (fun _ _ _ h => h) (Or.inl ⟨by rfl, ?_⟩) (by assumption) ?_
    · intro wq hSq; go_simp
    try simp only [Act.put, List.setIfInBounds_toArray, List.set_cons_zero, List.set_cons_succ]
    refine last.wpAnyL_take (i := 2) (v := (.pointer (some ⟨X, pre.length, none⟩))) rfl rfl (by kernel_rfl) (by kernel_rfl) (by kernel_rfl) (by kernel_rfl) (fun _ _ _ h => h) (Or.inl ⟨by rfl, ?_⟩) (by assumption) ?_
    · intro wq hSq; go_simp
    try simp only [Act.put, List.setIfInBounds_toArray, List.set_cons_zero, List.set_cons_succ]
    refine last.wpAnyL_take (i := 3) (v := (.pointer (some ⟨X, pre.length + 4, none⟩))) rfl rfl (by kernel_rfl) (by kernel_rfl) (by kernel_rfl) (by kernel_rfl) (fun _ _ _ h => h) (Or.inl ⟨by rfl, ?_⟩) (by assumption) ?_
    · intro wq hSq; go_simp
    try simp only [Act.put, List.setIfInBounds_toArray, List.set_cons_zero, List.set_cons_succ]
    refine last.wpAnyL_take (i := 4) (v := (.slice la ln lc)) rfl rfl (by kernel_rfl) (by kernel_rfl) (by kernel_rfl) (by kernel_rfl) (fun _ _ _ h => h) (Or.inl ⟨by rfl, ?_⟩) (by assumption) ?_
    · intro wq hSq; have q := hSq.2.cell 4 _ rfl; go_simp
    try simp only [Act.put, List.setIfInBounds_toArray, List.set_cons_zero, List.set_cons_succ]
    refine last.wpAnyL_take (i := 5) (v := (.pointer (some ⟨gj, k * 4, none⟩))) rfl rfl (by kernel_rfl) (by kernel_rfl) (by kernel_rfl) (by kernel_rfl) (fun _ _ _ h => h) (Or.inl ⟨by rfl, ?_⟩) (by assumption) ?_
    · intro wq hSq; go_simp
    try simp only [Act.put, List.setIfInBounds_toArray, List.set_cons_zero, List.set_cons_succ]
    refine last.wpAnyL_take (i := 6) (v := (.pointer (some ⟨gj, k * 4, none⟩))) rfl rfl (by kernel_rfl) (by kernel_rfl) (by kernel_rfl) (by kernel_rfl) (fun _ _ _ h => h) (Or.inl ⟨by rfl, ?_⟩) (by assumption) ?_
    · intro wq hSq; go_simp
    try simp only [Act.put, List.setIfInBounds_toArray, List.set_cons_zero, List.set_cons_succ]
    refine last.wpAnyL_take (i := 7) (v := (.pointer (some ⟨gj, k * 4, none⟩))) rfl rfl (by kernel_rfl) (by kernel_rfl) (by kernel_rfl) (by kernel_rfl) (fun _ _ _ h => h) (Or.inl ⟨by rfl, ?_⟩) (by assumption) ?_
    · intro wq hSq; go_simp
    try simp only [Act.put, List.setIfInBounds_toArray, List.set_cons_zero, List.set_cons_succ]
    refine last.wpAnyL_take (i := 8) (v := (.int .i64 tx)) rfl rfl (by kernel_rfl) (by kernel_rfl) (by kernel_rfl) (by kernel_rfl) (fun _ _ _ h => h) (Or.inl ⟨by rfl, ?_⟩) (by assumption) ?_
    · intro wq hSq; have q := hSq.1; go_simp
    try simp only [Act.put, List.setIfInBounds_toArray, List.set_cons_zero, List.set_cons_succ]
    refine last.wpAnyL_take (i := 9) (v := (.bool true)) rfl rfl (by kernel_rfl) (by kernel_rfl) (by kernel_rfl) (by kernel_rfl) (fun _ _ _ h => h) (Or.inl ⟨by rfl, ?_⟩) (by assumption) ?_
    · intro wq hSq; go_simp
    try simp only [Act.put, List.setIfInBounds_toArray, List.set_cons_zero, List.set_cons_succ]
    refine last.wpAnyL_take (i := 10) (v := (.agg #[.int .i64 tx, .bool true])) rfl rfl (by kernel_rfl) (by kernel_rfl) (by kernel_rfl) (by kernel_rfl) (fun _ _ _ h => h) (Or.inl ⟨by rfl, ?_⟩) (by assumption) ?_
    · intro wq hSq; go_simp
    try simp only [Act.put, List.setIfInBounds_toArray, List.set_cons_zero, List.set_cons_succ]
    refine last.wpAnyL_one (i := 11) (o := { dst := some 24, op := Op.buildSlice 31 1 #[(0, Operand.tmp 23)], type := 31, pos := "l11_coord.go:229", after := #[{ on := 10, ground := Ground.data }], guard := none }) (by kernel_rfl) rfl (fun K hK => ?_)
    go_simp
    rw [HVV.out]
    refine hK.out _ _ ?_ (fun hHeld => ?_)
    · exact ⟨eV, hXV⟩
    clear hK K hHeld0
    have hHeld0 := hHeld
    clear hHeld
    try simp only [Act.put, List.setIfInBounds_toArray, List.set_cons_zero, List.set_cons_succ]
    refine last.wpAnyL_one (i := 12) (o := { dst := some 25, op := Op.call { callee := Callee.builtin Builtin.append, args := #[Operand.tmp 17, Operand.tmp 24], argTypes := #[31, 31] }, type := 31, pos := "l11_coord.go:229", after := #[{ on := 4, ground := Ground.data }, { on := 11, ground := Ground.data }], guard := none }) (by kernel_rfl) rfl (fun K hK => ?_)
    refine step_append_run rfl (.tmp 17) (.tmp 24) 31 rfl (by kernel_rfl) (by kernel_rfl) hrun ?_
    refine hK.out _ _ ?_ (fun hHeld => ?_)
    · exact ⟨e6, hX6⟩
    clear hK K hHeld0
    have hHeld0 := hHeld
    clear hHeld
    try simp only [Act.put, List.setIfInBounds_toArray, List.set_cons_zero, List.set_cons_succ]
    refine last.wpAnyL_one (i := 13) (o := { dst := some 26, op := Op.nilCheck (Operand.tmp 13), type := 0, pos := "l11_coord.go:229", after := #[{ on := 0, ground := Ground.data }, { on := 0, ground := Ground.phase }, { on := 1, ground := Ground.phase }, { on := 2, ground := Ground.phase }, { on := 3, ground := Ground.phase }, { on := 4, ground := Ground.phase }, { on := 5, ground := Ground.phase }, { on := 6, ground := Ground.phase }, { on := 7, ground := Ground.phase }, { on := 8, ground := Ground.phase }, { on := 9, ground := Ground.phase }, { on := 10, ground := Ground.phase }, { on := 11, ground := Ground.phase }, { on := 12, ground := Ground.phase }], guard := none }) (by kernel_rfl) rfl (fun K hK => ?_)
    go_simp
    refine hK.out _ _ ?_ (fun hHeld => ?_)
    · exact ⟨e6, hX6⟩
    clear hK K hHeld0
    have hHeld0 := hHeld
    clear hHeld
    try simp only [Act.put, List.setIfInBounds_toArray, List.set_cons_zero, List.set_cons_succ]
    refine last.wpAnyL_one (i := 14) (o := { dst := some 27, op := Op.fieldAddr 33 (Operand.tmp 26) 4, type := 0, pos := "l11_coord.go:229", after := #[{ on := 13, ground := Ground.data }, { on := 0, ground := Ground.phase }, { on := 1, ground := Ground.phase }, { on := 2, ground := Ground.phase }, { on := 3, ground := Ground.phase }, { on := 4, ground := Ground.phase }, { on := 5, ground := Ground.phase }, { on := 6, ground := Ground.phase }, { on := 7, ground := Ground.phase }, { on := 8, ground := Ground.phase }, { on := 9, ground := Ground.phase }, { on := 10, ground := Ground.phase }, { on := 11, ground := Ground.phase }, { on := 12, ground := Ground.phase }], guard := none }) (by kernel_rfl) rfl (fun K hK => ?_)
    go_simp
    refine hK.out _ _ ?_ (fun hHeld => ?_)
    · exact ⟨e6, hX6⟩
    clear hK K hHeld0
    have hHeld0 := hHeld
    clear hHeld
    try simp only [Act.put, List.setIfInBounds_toArray, List.set_cons_zero, List.set_cons_succ]
    have t4 := hX6.cell 4 _ rfl
    have t4f := hX6.fz (pre.length + 4)
    refine last.wpAnyL_last (o := { dst := none, op := Op.store 31 (Operand.tmp 27) (Operand.tmp 25), type := 0, pos := "l11_coord.go:229", after := #[{ on := 14, ground := Ground.data }, { on := 12, ground := Ground.data }, { on := 12, ground := Ground.chain }, { on := 0, ground := Ground.phase }, { on := 1, ground := Ground.phase }, { on := 2, ground := Ground.phase }, { on := 3, ground := Ground.phase }, { on := 4, ground := Ground.phase }, { on := 5, ground := Ground.phase }, { on := 6, ground := Ground.phase }, { on := 7, ground := Ground.phase }, { on := 8, ground := Ground.phase }, { on := 9, ground := Ground.phase }, { on := 10, ground := Ground.phase }, { on := 11, ground := Ground.phase }, { on := 12, ground := Ground.phase }], guard := none }) (by kernel_rfl) rfl (by kernel_rfl) (fun K hK => ?_)
    go_simp
    refine hK.out _ _ ?_
    clear hK K
    rw [HU.out]
    first | (refine bodyPost_end (v := .tuple #[]) ?_ rfl ⟨rfl, HP.out⟩) | (refine bodyPost_ret (v := .tuple #[]) ?_ rfl ⟨rfl, HP.out⟩)
    simp [results, Tryz.results87, go_sem]
end Go.Proofs.YtdeaiefhegjalaaGreat.cos
