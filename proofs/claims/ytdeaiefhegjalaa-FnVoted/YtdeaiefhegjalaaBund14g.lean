/- The specification's Vote. The program's Vote: the job that it is about. The program's one who decides: a choice is made. Where a number is put into a row of numbers that rise: behind as many as are below it. The program's one who decides: a vote is heard (what addYes does is a premise here). -/
import Derived.Test.YtdeaiefhegjalaaBund13k
import Derived.Test.YtdeaiefhegjalaaBund12bf
import Derived.Test.YtdeaiefhegjalaaBund13n
import Derived.Test.YtdeaiefhegjalaaBund12bg
import Derived.Test.YtdeaiefhegjalaaBund13v
import Derived.Test.YtdeaiefhegjalaaBund12bb
namespace Go.Proofs.Ytdeaiefhegjalaa.cos
open Go Go.RowKit Go.Proofs.Ytdeaiefhegjalaa.base Go.Proofs.Ytdeaiefhegjalaa.pairs Go.Proofs.Ytdeaiefhegjalaa.ords Go.Proofs.Ytdeaiefhegjalaa.lay Go.Proofs.Ytdeaiefhegjalaa.wds
set_option linter.unusedVariables false
set_option linter.unusedSimpArgs false

def voteR (c : Co) (shard tx : Int) (yes : Bool) : Co := if coordOk c = true then voteS c shard tx yes else c
set_option maxRecDepth 100000 in
set_option maxHeartbeats 1000000 in
theorem spec_vote (ja : Option Addr) (jn jc : Nat) (la : Option Addr) (ln lc : Nat) (c : Co) (shard tx : Int) (yes : Bool) (w : World) (h : SeeCo w ja jn jc la ln lc c) (hbd : BoundCo c) (hsw : (Lit.int .i64 shard).wf = true) (htw : (Lit.int .i64 tx).wf = true) :
    Calls Try.prog 7 #[coV c.1 c.2.1 c.2.2.1 c.2.2.2.2.2 ja jn jc la ln lc, .int .i64 shard, .int .i64 tx, .bool yes] w (RetR coordR w (voteR c shard tx yes)) := by
  have hwf := h.wf
  have hl8 := hbd.log
  obtain ⟨W, hW⟩ : ∃ W, (w.alloc (.cells #[.int .i64 c.1, .int .i64 c.2.1, .int .i64 c.2.2.1, .slice ja jn jc, .slice la ln lc, .int .i64 c.2.2.2.2.2] 27)).alloc (.cells #[.int .i64 0, .int .i64 0, .int .i64 0, .slice none 0 0, .slice none 0 0, .int .i64 0] 27) = W := ⟨_, rfl⟩
  have hB : Below w.heap.size w W := by rw [← hW]; exact ((Below.refl _ _).alloc (Nat.le_refl _) _).alloc (by simp) _
  have hA : BoxIn w.heap.size 27 [] [.int .i64 c.1, .int .i64 c.2.1, .int .i64 c.2.2.1, .slice ja jn jc, .slice la ln lc, .int .i64 c.2.2.2.2.2] [] W := by rw [← hW]; exact (boxIn_new w _ _).below below_make
  have hR : BoxIn (w.heap.size + 1) 27 [] [.int .i64 0, .int .i64 0, .int .i64 0, .slice none 0 0, .slice none 0 0, .int .i64 0] [] W := by
    rw [← hW]
    have := boxIn_new (w.alloc (.cells #[.int .i64 c.1, .int .i64 c.2.1, .int .i64 c.2.2.1, .slice ja jn jc, .slice la ln lc, .int .i64 c.2.2.2.2.2] 27)) [.int .i64 0, .int .i64 0, .int .i64 0, .slice none 0 0, .slice none 0 0, .int .i64 0] 27
    rwa [show (w.alloc (.cells #[.int .i64 c.1, .int .i64 c.2.1, .int .i64 c.2.2.1, .slice ja jn jc, .slice la ln lc, .int .i64 c.2.2.2.2.2] 27)).heap.size = w.heap.size + 1 by simp] at this
  have hRl := hR.lt
  have HOC : Hid (Calls Try.prog 20 #[coV c.1 c.2.1 c.2.2.1 c.2.2.2.2.2 ja jn jc la ln lc] W (RetR coordR W c)) := (spec_copy ja jn jc la ln lc c W (h.below hB) hbd.fits hbd.yes).mono fun e w' hp => copy_ret hwf hp
  have HCK := Hid.mk' (fun wx (hx : Below w.heap.size w wx) => spec_coordOk ja jn jc la ln lc c wx (h.below hx) hbd.fits)
  have HW := Hid.mk' hW
  obtain ⟨a0, a1, a2, a3, a4, a5⟩ := cells6 hA
  rw [← hW] at a0 a1 a2 a3 a4 a5
  clear hW h
  go_enter Try.func7, Try.ntmps7
  go_wp2_with fail
  rw [HW.out]
  refine HOC.out.mono ?_
  rintro e w1 ⟨vs, F, rfl, hO, hF, hb1⟩
  obtain ⟨xja, xjn, xjc, xla, xln, xlc, rfl⟩ := coord_shape hO
  have hB1 := hB.trans (hb1.mono hB.size)
  obtain ⟨V, hV⟩ : ∃ V, w1.alloc (.cells #[.int .i64 c.1, .int .i64 c.2.1, .int .i64 c.2.2.1, .slice xja xjn xjc, .slice xla xln xlc, .int .i64 c.2.2.2.2.2] 27) = V := ⟨_, rfl⟩
  have hbv : Below w1.heap.size w1 V := by rw [← hV]; exact below_make
  have hBV := hB1.trans (hbv.mono hB1.size)
  have hX := inR_new (T := 27) hO
  rw [hV] at hX
  have hRV := (hR.below hb1).below hbv
  have hw1 := hb1.size
  have HOK := Hid.mk' (HCK.out V hBV)
  have HV := Hid.mk' hV
  clear a0 a1 a2 a3 a4 a5 HOC HCK hO
  obtain ⟨a0, a1, a2, a3, a4, a5⟩ := cells6 ((hA.below hb1).below hbv)
  rw [← hV] at a0 a1 a2 a3 a4 a5
  clear hV
  cases hok : coordOk c
  · rw [hok] at HOK
    have HE : Hid (voteR c shard tx yes = c) := by show _ = _; unfold voteR; rw [if_neg (by rw [hok]; decide)]
    clear hok
    go_wp2_with fail
    rw [HV.out]
    refine HOK.out.mono ?_
    rintro e w2 ⟨rfl, hb2⟩
    have hR2 := hRV.below hb2
    have hX2 := hX.below hb2
    have hB2 := hBV.trans (hb2.mono hBV.size)
    clear a0 a1 a2 a3 a4 a5
    obtain ⟨q0, q1, q2, q3, q4, q5⟩ := cells6 hX2.box
    obtain ⟨z0, z1, z2, z3, z4, z5⟩ := cells6 hR2
    have f0 := hR2.fz 0
    have f1 := hR2.fz 1
    have f2 := hR2.fz 2
    have f3 := hR2.fz 3
    have f4 := hR2.fz 4
    have f5 := hR2.fz 5
    have hS := hR2.whole [.int .i64 c.1, .int .i64 c.2.1, .int .i64 c.2.2.1, .slice xja xjn xjc, .slice xla xln xlc, .int .i64 c.2.2.2.2.2] rfl
    obtain ⟨y0, y1, y2, y3, y4, y5⟩ := cells6 hS.1
    simp only [putAll, Nat.zero_add, Nat.reduceAdd] at y0 y1 y2 y3 y4 y5
    have hO2 := coordR.ownGrown hX2.own hS.2 (fun b hb e => by have := hF b hb; cases e; omega)
    have hBz := hB2.grown hS.2 hB2.size (fun j e => by cases e; omega)
    have hFN : ∀ b ∈ _, w.heap.size ≤ b := fun b hb => by have := hF b hb; have := hB.size; omega
    have HRET := Hid.mk' (show RetR coordR w (voteR c shard tx yes) (.returned (.agg #[.int .i64 c.1, .int .i64 c.2.1, .int .i64 c.2.2.1, .slice xja xjn xjc, .slice xla xln xlc, .int .i64 c.2.2.2.2.2])) _ from by rw [HE.out]; exact ⟨_, _, rfl, hO2, hFN, hBz⟩)
    clear hO2 hS hBz hFN
    go_wp2_with fail
    refine bodyPost_ret (v := .agg #[.int .i64 c.1, .int .i64 c.2.1, .int .i64 c.2.2.1, .slice xja xjn xjc, .slice xla xln xlc, .int .i64 c.2.2.2.2.2]) ?_ rfl HRET.out
    simp [results, Try.results7, go_sem, y0, y1, y2, y3, y4, y5]
  · rw [hok] at HOK
    have HE : Hid (voteR c shard tx yes = voteS c shard tx yes) := by show _ = _; unfold voteR; rw [if_pos hok]
    have hR0 := coordOk_iff.1 hok
    have HCR := Hid.mk' (fun wx (hx : InR coordR 27 wx w1.heap.size [.int .i64 c.1, .int .i64 c.2.1, .int .i64 c.2.2.1, .slice xja xjn xjc, .slice xla xln xlc, .int .i64 c.2.2.2.2.2] c F) => spec_l11Vote w1.heap.size 27 [] [] xja xjn xjc xla xln xlc c F shard tx yes wx ⟨hx.box, hx.own, hx.out⟩ hR0 hsw htw hbd.jobs)
    generalize voteS c shard tx yes = R at *
    clear hok hR0
    go_wp2_with fail
    rw [HV.out]
    refine HOK.out.mono ?_
    rintro e w2 ⟨rfl, hb2⟩
    have hR2 := hRV.below hb2
    have hX2 := hX.below hb2
    have hB2 := hBV.trans (hb2.mono hBV.size)
    have HC2 := Hid.mk' (HCR.out w2 hX2)
    have hXlt := hX2.lt
    have hFl2 := coordR.ownLt hX2.own
    clear a0 a1 a2 a3 a4 a5 HCR
    go_wp2_with fail
    refine HC2.out.mono ?_
    rintro e w3 ⟨rfl, yja, yjn, yjc, yla, yln, ylc, F3, hI3, hf3, hfr3⟩
    have hR3 := hR2.frame hf3 (fun e => by
      rcases List.mem_cons.1 e with e | e
      · omega
      · have := hF _ e; omega)
    have hb1s := hB1.size
    have hF3 : ∀ b ∈ F3, W.heap.size ≤ b := fun b hb => by
      have h2 := hb2.size
      have h3 := hbv.size
      rcases hfr3 b hb with e | e
      · exact hF b e
      · omega
    have hB3 : Below w.heap.size w w3 := hB2.trans (hf3.bel hB2.size fun b hb => by
      have := hB.size
      rcases List.mem_cons.1 hb with e | e
      · omega
      · have := hF b e; omega)
    clear HC2
    obtain ⟨q0, q1, q2, q3, q4, q5⟩ := cells6 hI3.box
    obtain ⟨z0, z1, z2, z3, z4, z5⟩ := cells6 hR3
    have f0 := hR3.fz 0
    have f1 := hR3.fz 1
    have f2 := hR3.fz 2
    have f3 := hR3.fz 3
    have f4 := hR3.fz 4
    have f5 := hR3.fz 5
    have hS := hR3.whole [.int .i64 R.1, .int .i64 R.2.1, .int .i64 R.2.2.1, .slice yja yjn yjc, .slice yla yln ylc, .int .i64 R.2.2.2.2.2] rfl
    obtain ⟨y0, y1, y2, y3, y4, y5⟩ := cells6 hS.1
    simp only [putAll, Nat.zero_add, Nat.reduceAdd] at y0 y1 y2 y3 y4 y5
    have hO2 := coordR.ownGrown hI3.own hS.2 (fun b hb e => by have := hF3 b hb; cases e; omega)
    have hBz := hB3.grown hS.2 hB3.size (fun j e => by cases e; omega)
    have hFN : ∀ b ∈ _, w.heap.size ≤ b := fun b hb => by have := hF3 b hb; have := hB.size; omega
    have HRET := Hid.mk' (show RetR coordR w (voteR c shard tx yes) (.returned (.agg #[.int .i64 R.1, .int .i64 R.2.1, .int .i64 R.2.2.1, .slice yja yjn yjc, .slice yla yln ylc, .int .i64 R.2.2.2.2.2])) _ from by rw [HE.out]; exact ⟨_, _, rfl, hO2, hFN, hBz⟩)
    clear hO2 hS hBz hFN
    go_wp2_with fail
    refine bodyPost_ret (v := .agg #[.int .i64 R.1, .int .i64 R.2.1, .int .i64 R.2.2.1, .slice yja yjn yjc, .slice yla yln ylc, .int .i64 R.2.2.2.2.2]) ?_ rfl HRET.out
    simp [results, Try.results7, go_sem, y0, y1, y2, y3, y4, y5]
end Go.Proofs.Ytdeaiefhegjalaa.cos

namespace Go.Proofs.Ytdeaiefhegjalaa.cos
open Go Go.RowKit Go.Proofs.Ytdeaiefhegjalaa.base Go.Proofs.Ytdeaiefhegjalaa.pairs Go.Proofs.Ytdeaiefhegjalaa.ords Go.Proofs.Ytdeaiefhegjalaa.lay Go.Proofs.Ytdeaiefhegjalaa.wds
set_option linter.unusedVariables false
set_option linter.unusedSimpArgs false

/-- the first job of tx that asks -/
def askAt (l : List Jb) (tx : Int) : Option Nat := l.findIdx? fun j => decide (j.1 = tx) && decide (j.2.2.1 = 1)
theorem askAt_first {l : List Jb} {tx : Int} {k : Nat} (hk : k < l.length) (h1 : l[k].1 = tx) (h2 : l[k].2.2.1 = 1) (h : ∀ i (hi : i < k), (decide ((l[i]'(by omega)).1 = tx) && decide ((l[i]'(by omega)).2.2.1 = 1)) = false) : askAt l tx = some k := by
  unfold askAt
  rw [List.findIdx?_eq_some_iff_getElem]
  refine ⟨hk, by simp [h1, h2], fun i hi => ?_⟩
  have := h i hi
  simp only [this]
  decide
/-- where the numbers rise, the job that asks is the job of tx -/
theorem askAt_votes {c : Co} (hR : RightCo c) {shard tx : Int} : votes c shard tx = match askAt c.2.2.2.1 tx with
    | none => none
    | some k => match c.2.2.2.1[k]? with
      | none => none
      | some j => if c.2.2.2.2.1.length < 1000 ∧ shard ∈ shardsOf c.1 j.2.1 then some k else none := by
  have hrise := hR.rise
  unfold votes
  cases e : jobAt c.2.2.2.1 tx with
  | none =>
    have hno : ∀ i (hi : i < c.2.2.2.1.length), c.2.2.2.1[i].1 ≠ tx := fun i hi h => by
      unfold jobAt at e
      rw [List.findIdx?_eq_none_iff] at e
      have := e _ (List.getElem_mem hi)
      simp [h] at this
    have : askAt c.2.2.2.1 tx = none := findIdx_none fun i hi => by simp [hno i hi]
    rw [this]
  | some k =>
    obtain ⟨hk, h1, hb⟩ := findIdx_some e
    replace h1 : c.2.2.2.1[k].1 = tx := of_decide_eq_true h1
    simp only [List.getElem?_eq_getElem hk]
    by_cases h2 : c.2.2.2.1[k].2.2.1 = 1
    · have : askAt c.2.2.2.1 tx = some k := askAt_first hk h1 h2 fun i hi => by
        have := hb i hi
        simp only [this, Bool.false_and]
      rw [this]
      simp only [List.getElem?_eq_getElem hk, h2, true_and]
    · have : askAt c.2.2.2.1 tx = none := findIdx_none fun i hi => by
        by_cases hik : i = k
        · subst hik; simp [h2]
        · have := rise_unlike hrise hi hk hik
          rw [h1] at this
          simp [this]
      rw [this, if_neg (fun h => h2 h.1)]
set_option maxRecDepth 100000 in
set_option maxHeartbeats 1000000 in
theorem i_asking (X : Nat) (ja : Option Addr) (jn jc : Nat) (l : List Jb) (tx : Int) (w : World) (h3 : w.cell? ⟨X, 3, none⟩ = some (.slice ja jn jc)) (h : SlG jobR w ja jn l) (hn : jn ≤ 1099511627776) :
    Calls Try.prog 18 #[.pointer (some ⟨X, 0, none⟩), .int .i64 tx] w fun e w' => w' = w ∧ ((askAt l tx = none ∧ e = .returned (.pointer none)) ∨ ∃ k b off, askAt l tx = some k ∧ k < l.length ∧ ja = some ⟨b, off, none⟩ ∧ e = .returned (.pointer (some ⟨b, off + k * 4, none⟩))) := by
  have hl := h.1
  have HL := Hid.mk' hl
  clear hl
  go_enter Try.func18, Try.ntmps18
  go_wp2_with fail
  go_loop [12] (fun i => ∃ k : Nat, k ≤ jn ∧ i = .int .i64 (k : Int) ∧ ∀ j (hj : j < k) (hl : j < l.length), (decide (l[j].1 = tx) && decide (l[j].2.2.1 = 1)) = false) (fun i => jn - (intOf i).toNat)
  case atStart => exact ⟨0, Nat.zero_le _, rfl, fun j hj => absurd hj (Nat.not_lt_zero _)⟩
  case round =>
    obtain ⟨k, hk, rfl, hno⟩ := hrel
    by_cases hlt : k < jn
    · have hki : (k : Int) < (jn : Int) := by omega
      have hkl : k < l.length := by rw [HL.out]; exact hlt
      obtain ⟨b, off, hja, _⟩ := h.2.2.2 (by omega)
      subst hja
      obtain ⟨c0, c2, _, _⟩ := job_at h k hkl
      have HNO := Hid.mk' hno
      clear hno
      by_cases e1 : l[k].1 = tx
      · have d1 : (l[k].1 == tx) = true := beq_iff_eq.2 e1
        by_cases e2 : l[k].2.2.1 = 1
        · have d2 : (l[k].2.2.1 == 1) = true := beq_iff_eq.2 e2
          have HA := Hid.mk' (askAt_first hkl e1 e2 (fun i hi => HNO.out i hi (by omega)))
          clear e1 e2
          go_wp2_with fail
          go_ret
          exact ⟨rfl, .inr ⟨k, HA.out, hkl, b, off, ⟨rfl, rfl⟩, by simp⟩⟩
        · have d2 : (l[k].2.2.1 == 1) = false := beq_eq_false_iff_ne.2 e2
          have HE : Hid ((decide (l[k].1 = tx) && decide (l[k].2.2.1 = 1)) = false) := by show _ = _; simp [e2]
          clear e1 e2
          go_wp2_with fail
          go_round
          case rel =>
            refine ⟨k + 1, by omega, by go_num, fun j hj hl => ?_⟩
            by_cases hjk : j = k
            · subst hjk; exact HE.out
            · exact HNO.out j (by omega) hl
          case measure => simp [intOf]; omega
      · have d1 : (l[k].1 == tx) = false := beq_eq_false_iff_ne.2 e1
        have HE : Hid ((decide (l[k].1 = tx) && decide (l[k].2.2.1 = 1)) = false) := by show _ = _; simp [e1]
        clear e1
        go_wp2_with fail
        go_round
        case rel =>
          refine ⟨k + 1, by omega, by go_num, fun j hj hl => ?_⟩
          by_cases hjk : j = k
          · subst hjk; exact HE.out
          · exact HNO.out j (by omega) hl
        case measure => simp [intOf]; omega
    · have hki : ¬ (k : Int) < (jn : Int) := by omega
      have HN : Hid (askAt l tx = none) := findIdx_none fun i hi => hno i (by have := HL.out; omega) hi
      clear hno
      go_wp2_with fail
      go_ret
      exact ⟨rfl, .inl ⟨HN.out, rfl⟩⟩
end Go.Proofs.Ytdeaiefhegjalaa.cos

namespace Go.Proofs.Ytdeaiefhegjalaa.cos
open Go Go.RowKit Go.Proofs.Ytdeaiefhegjalaa.base Go.Proofs.Ytdeaiefhegjalaa.pairs Go.Proofs.Ytdeaiefhegjalaa.ords Go.Proofs.Ytdeaiefhegjalaa.lay Go.Proofs.Ytdeaiefhegjalaa.wds
set_option linter.unusedVariables false
set_option linter.unusedSimpArgs false

/-- one who decides, with the job at k in another state -/
def stateC (c : Co) (k : Nat) (hk : k < c.2.2.2.1.length) (st : Int) : Co := (c.1, c.2.1, c.2.2.1, c.2.2.2.1.set k (c.2.2.2.1[k].1, c.2.2.2.1[k].2.1, st, c.2.2.2.1[k].2.2.2), c.2.2.2.2.1, c.2.2.2.2.2)
/-- one who decides, with one more choice -/
def logC (c : Co) (tx : Int) (y : Bool) : Co := (c.1, c.2.1, c.2.2.1, c.2.2.2.1, c.2.2.2.2.1 ++ [(tx, y)], c.2.2.2.2.2)
theorem CoPost.trans {w w' U : World} {X : Nat} {T : TypeId} {pre post : List Value} {c : Co} {F : List Nat} (hF : lay.Frame (X :: F) w w') (h : CoPost w' X T pre post F c U) : CoPost w X T pre post F c U := by
  obtain ⟨ja, jn, jc, la, ln, lc, F', h1, h2, h3⟩ := h
  exact ⟨ja, jn, jc, la, ln, lc, F', h1, hF.trans h2 (Fresh.refl _ _), (Fresh.refl w F).trans h3 hF.size⟩
/-- a state is laid into a job -/
theorem InCo.state {w : World} {X : Nat} {T : TypeId} {pre post : List Value} {gj jn jc : Nat} {la : Option Addr} {ln lc : Nat} {c : Co} {F : List Nat} (h : InCo w X T pre post (some ⟨gj, 0, none⟩) jn jc la ln lc c F) (k : Nat) (hk : k < c.2.2.2.1.length) (st : Int) (hst : (Lit.int .i64 st).wf = true) :
    InCo (w.setCell ⟨gj, k * 4 + 2, none⟩ (.int .i64 st)) X T pre post (some ⟨gj, 0, none⟩) jn jc la ln lc (stateC c k hk st) F ∧ lay.Frame (X :: F) w (w.setCell ⟨gj, k * 4 + 2, none⟩ (.int .i64 st)) := by
  obtain ⟨hbx, hown, hXF⟩ := h
  obtain ⟨vx, vy, F1, F2, e, hwf, hj, hl, hFe, hnd⟩ := coord_own.1 hown
  simp only [List.cons.injEq, and_true, true_and] at e
  obtain ⟨rfl, rfl⟩ := e
  obtain ⟨vj, qj, e, hF1, hJ⟩ := hj
  simp only [List.cons.injEq, and_true] at e
  subst e
  obtain ⟨q', hJ4, hq, hg⟩ := hJ.cell1 k hk 2 (by decide) (.int .i64 st) (c.2.2.2.1[k].1, c.2.2.2.1[k].2.1, st, c.2.2.2.1[k].2.2.2) (fun vs FK hu => by
    obtain ⟨v1, v2, e, k1, k3, h1, h2, h3, h4⟩ := job_own.1 hu
    exact job_own.2 ⟨v1, v2, by rw [e]; rfl, k1, hst, h1, h2, h3, h4⟩)
  rw [show k * jobR.size + 2 = k * 4 + 2 from rfl] at hJ4 hg
  have hgj1 : gj ∈ F1 := by rw [hF1]; exact List.mem_append.2 (.inl (by simp [Value.ownBlock]))
  have hgjF : gj ∈ F := by rw [hFe]; exact List.mem_append.2 (.inl hgj1)
  have hXj : gj ≠ X := fun e => hXF (e ▸ hgjF)
  have hnd' := hnd
  rw [hFe] at hnd'
  have hl4 := logR.ownAt hl fun b hb => hg.block b (logR.ownLt hl b hb) (fun e => (nodup_parts hnd').2.2 gj hgj1 (Option.some.inj e ▸ hb))
  refine ⟨⟨hbx.grown hg (fun e => hXj (Option.some.inj e).symm), coord_own.2 ⟨_, _, F1, F2, rfl, ⟨hwf.n, hwf.life, hwf.next, hwf.sure⟩, ⟨_, q', rfl, by rw [hF1, hq], hJ4⟩, hl4, hFe, hnd⟩, hXF⟩, lay.Frame.of_grown hg (fun b e => by cases e; exact .inl (List.mem_cons_of_mem _ hgjF))⟩
theorem jobs_tx {w : World} {gj jn jc : Nat} {l : List Jb} {F1 : List Nat} (hj : jobsR.own w [.slice (some ⟨gj, 0, none⟩) jn jc] l F1) (k : Nat) (hk : k < l.length) : w.cell? ⟨gj, k * 4, none⟩ = some (.int .i64 l[k].1) ∧ (∃ z, w.cell? ⟨gj, k * 4 + 2, none⟩ = some z) ∧ (∀ i, w.frozen? ⟨gj, i, none⟩ = false) ∧ (Lit.int .i64 l[k].1).wf = true := by
  obtain ⟨vj, qj, e, hF1, hJ⟩ := hj
  simp only [List.cons.injEq, and_true] at e
  subst e
  obtain ⟨us, FK, hu, hcl, hFK, -⟩ := hJ.openF k hk
  obtain ⟨v1, v2, e, k1, k3, h1, h2, h3, h4⟩ := job_own.1 hu
  subst e
  have d0 := hcl 0 _ rfl
  have d2 := hcl 2 _ rfl
  rw [show k * jobR.size + 2 = k * 4 + 2 from rfl] at d2
  rw [show k * jobR.size + 0 = k * 4 from rfl] at d0
  exact ⟨d0, ⟨_, d2⟩, fun i => hJ.frozen i, k1⟩
/-- a choice is appended -/
theorem InCo.choice {w : World} {X : Nat} {T : TypeId} {pre post : List Value} {ja : Option Addr} {jn jc : Nat} {la : Option Addr} {ln lc : Nat} {c : Co} {F : List Nat} (h : InCo w X T pre post ja jn jc la ln lc c F) (tx : Int) (y : Bool) (htw : (Lit.int .i64 tx).wf = true) (hln : c.2.2.2.2.1.length ≤ 1048576) :
    ∃ gl cap' w6, (Builtin.append_ #[25, 25] 25 #[.slice la ln lc, .slice (some ⟨w.heap.size, 0, none⟩) 1 1]).run Try.prog (w.alloc (.cells #[.int .i64 tx, .bool y] 33)) = .ok (.slice (some ⟨gl, 0, none⟩) (ln + 1) cap') w6 ∧ BoxIn X T pre [.int .i64 c.1, .int .i64 c.2.1, .int .i64 c.2.2.1, .slice ja jn jc, .slice la ln lc, .int .i64 c.2.2.2.2.2] post w6 ∧ (∃ F1, jobsR.own w6 [.slice ja jn jc] c.2.2.2.1 F1) ∧ CoPost w X T pre post F (logC c tx y) (w6.setCell ⟨X, pre.length + 4, none⟩ (.slice (some ⟨gl, 0, none⟩) (ln + 1) cap')) := by
  obtain ⟨hbx, hown, hXF⟩ := h
  obtain ⟨vx, vy, F1, F2, e, hwf, hj, hl, hFe, hnd⟩ := coord_own.1 hown
  simp only [List.cons.injEq, and_true, true_and] at e
  obtain ⟨rfl, rfl⟩ := e
  obtain ⟨⟨ql, hL⟩, rfl⟩ := logs_own.1 hl
  have hXlb : X ∉ (Value.slice la ln lc).ownBlock.toList := fun e => hXF (by rw [hFe]; exact List.mem_append.2 (.inr e))
  have hnd' := hnd
  rw [hFe] at hnd'
  have hjlb := (nodup_parts hnd').2.2
  have hFlt := coordR.ownLt hown
  obtain ⟨gl, lcap, w6, hrun, hX6, hX7, hl7, hF7, hgl, hglX⟩ := add_choice hbx hL hXlb tx y htw hln
  have hS := (hX6.set 4 (by simp) (.slice (some ⟨gl, 0, none⟩) (ln + 1) lcap)).2
  have hs6 : w.heap.size ≤ w6.heap.size := by have := hF7.size; simp at this; exact this
  have hJ6 : jobsR.own w6 [.slice ja jn jc] c.2.2.2.1 F1 := jobsR.ownAt hj fun b hb => by
    have hbw := jobsR.ownLt hj b hb
    have hbX : b ≠ X := fun e => hXF (by rw [hFe, ← e]; exact List.mem_append.2 (.inl hb))
    have h7 := hF7.block b hbw (fun e => by
      rcases List.mem_cons.1 e with e | e
      · exact hbX e
      · exact hjlb b hb e)
    have h8 := hS.block b (by omega) (fun e => hbX (by simpa using e))
    rw [← h7, h8]
  refine ⟨gl, lcap, w6, hrun, hX6, ⟨_, hJ6⟩, ?_⟩
  have hJ7 := jobsR.ownAt hj fun b hb => hF7.block b (jobsR.ownLt hj b hb) (fun e => by
    rcases List.mem_cons.1 e with e | e
    · exact hXF (by rw [hFe, ← e]; exact List.mem_append.2 (.inl hb))
    · exact hjlb b hb e)
  have hFU : lay.Frame (X :: F) w (w6.setCell ⟨X, pre.length + 4, none⟩ (.slice (some ⟨gl, 0, none⟩) (ln + 1) lcap)) := (lay.Frame.refl _ w).trans hF7 (fun b hb => by
    rcases List.mem_cons.1 hb with e | e
    · exact .inl (by rw [e]; exact List.mem_cons_self)
    · exact .inl (List.mem_cons_of_mem _ (by rw [hFe]; exact List.mem_append.2 (.inr e))))
  refine co_post (c := logC c tx y) (F1 := F1) (F2 := (Value.slice la ln lc).ownBlock.toList) hX7 hJ7 hl7 hFU ⟨hwf.n, hwf.life, hwf.next, hwf.sure⟩ (fun b hb => .inl hb) (fun b hb => by
    rw [List.mem_singleton] at hb
    subst hb
    exact hgl) (fun b hb hb2 => by
    rw [List.mem_singleton] at hb2
    subst hb2
    rcases hgl with e | e
    · exact hjlb b hb e
    · have := jobsR.ownLt hj b hb; omega) (fun e => hXF (by rw [hFe]; exact List.mem_append.2 (.inl e))) (fun e => by
    rw [List.mem_singleton] at e
    exact hglX e.symm) hFe
/-- the number of the job at k, as it lies -/
theorem InCo.jobTx {w : World} {X : Nat} {T : TypeId} {pre post : List Value} {gj jn jc : Nat} {la : Option Addr} {ln lc : Nat} {c : Co} {F : List Nat} (h : InCo w X T pre post (some ⟨gj, 0, none⟩) jn jc la ln lc c F) (k : Nat) (hk : k < c.2.2.2.1.length) : w.cell? ⟨gj, k * 4, none⟩ = some (.int .i64 c.2.2.2.1[k].1) ∧ (∃ z, w.cell? ⟨gj, k * 4 + 2, none⟩ = some z) ∧ (∀ i, w.frozen? ⟨gj, i, none⟩ = false) ∧ (Lit.int .i64 c.2.2.2.1[k].1).wf = true := by
  obtain ⟨vx, vy, F1, F2, e, hwf, hj, hl, hFe, hnd⟩ := coord_own.1 h.own
  simp only [List.cons.injEq, and_true, true_and] at e
  obtain ⟨rfl, rfl⟩ := e
  exact jobs_tx hj k hk
set_option maxRecDepth 100000 in
set_option maxHeartbeats 2000000 in
theorem i_choose (X : Nat) (T : TypeId) (pre post : List Value) (gj jn jc : Nat) (la : Option Addr) (ln lc : Nat) (c : Co) (F : List Nat) (k : Nat) (hk : k < c.2.2.2.1.length) (yes : Bool) (w : World) (h : InCo w X T pre post (some ⟨gj, 0, none⟩) jn jc la ln lc c F) (hln : c.2.2.2.2.1.length ≤ 1048576) :
    Calls Try.prog 34 #[.pointer (some ⟨X, pre.length, none⟩), .pointer (some ⟨gj, k * 4, none⟩), .bool yes] w fun e w' => e = .returned (.tuple #[]) ∧ CoPost w X T pre post F (logC (stateC c k hk (if yes = true then 2 else 3)) c.2.2.2.1[k].1 yes) w' := by
  obtain ⟨d0, ⟨z2, d2⟩, f2, htw⟩ := h.jobTx k hk
  have g2 := f2 (k * 4 + 2)
  obtain ⟨h1, hF1⟩ := h.state k hk 3 (by decide)
  obtain ⟨W1, hW1⟩ : ∃ W1, w.setCell ⟨gj, k * 4 + 2, none⟩ (.int .i64 3) = W1 := ⟨_, rfl⟩
  rw [hW1] at h1 hF1
  obtain ⟨W, HW, hI, hFW, hsz⟩ : ∃ W, Hid (W = if yes = true then W1.setCell ⟨gj, k * 4 + 2, none⟩ (.int .i64 2) else W1) ∧ InCo W X T pre post (some ⟨gj, 0, none⟩) jn jc la ln lc (stateC c k hk (if yes = true then 2 else 3)) F ∧ lay.Frame (X :: F) w W ∧ W.heap.size = w.heap.size := by
    have hs1 : W1.heap.size = w.heap.size := by rw [← hW1]; simp
    cases yes
    · exact ⟨W1, (by show _ = _; simp), h1, hF1, hs1⟩
    · obtain ⟨h2, hF2⟩ := h1.state k (by simpa [stateC] using hk) 2 (by decide)
      refine ⟨_, (by show _ = _; rw [if_pos rfl]), ?_, hF1.trans hF2 (Fresh.refl _ _), by simp [hs1]⟩
      have e : stateC (stateC c k hk 3) k (by simpa [stateC] using hk) 2 = stateC c k hk 2 := by simp [stateC]
      rw [e] at h2
      exact h2
  have hk' : k < (stateC c k hk (if yes = true then 2 else 3)).2.2.2.1.length := by simpa [stateC] using hk
  have htx : (stateC c k hk (if yes = true then 2 else 3)).2.2.2.1[k].1 = c.2.2.2.1[k].1 := by simp [stateC]
  obtain ⟨z1, d1⟩ := (h1.jobTx k (by simpa [stateC] using hk)).2.1
  have g1 := (h1.jobTx k (by simpa [stateC] using hk)).2.2.1 (k * 4 + 2)
  have hdW : Below W.heap.size W W.drew := (Below.refl _ _).drew
  have hId := hI.below hdW
  obtain ⟨gl, lcap, w6, hrun, hX6, ⟨FJ, hJ6⟩, hP⟩ := hId.choice c.2.2.2.1[k].1 yes htw hln
  have HP := Hid.mk' (CoPost.trans hFW (CoPost.trans (lay.Frame.of_below hdW) hP))
  have e6 := (jobs_tx hJ6 k hk').1
  rw [htx] at e6
  have eD := (hId.jobTx k hk').1
  rw [htx] at eD
  have hXD := hId.box
  obtain ⟨V, hV⟩ : ∃ V, W.drew.alloc (.cells #[.int .i64 c.2.2.2.1[k].1, .bool yes] 33) = V := ⟨_, rfl⟩
  have hbv : Below W.drew.heap.size W.drew V := by rw [← hV]; exact below_make
  have eV := (hbv.cell (p := ⟨gj, k * 4, none⟩) (World.block_lt_of_cell? _ _ eD)).trans eD
  have hXV := hXD.below hbv
  obtain ⟨U, hU⟩ : ∃ U, w6.setCell ⟨X, pre.length + 4, none⟩ (.slice (some ⟨gl, 0, none⟩) (ln + 1) lcap) = U := ⟨_, rfl⟩
  rw [hU] at HP
  have HU := Hid.mk' hU
  have HVV := Hid.mk' hV
  rw [hV] at hrun
  have HW1 := Hid.mk' hW1
  rw [← hW1] at d1 g1
  have htxw := htw
  clear hU hV hP hId hI h1 hF1 hFW hJ6 h hW1 htx hbv hsz hk'
  generalize hST : stateC c k hk (if yes = true then 2 else 3) = S at *
  generalize c.2.2.2.1[k].1 = tx at *
  obtain ⟨sn, sl, sx, sj, slog, ssu⟩ := S
  simp only [] at hXD hXV hX6
  clear hST
  cases yes
  · rw [if_neg (by decide)] at HW
    go_enter Try.func34, Try.ntmps34
    go_wp2_with fail
    rw [HW1.out, ← HW.out]
    refine last.wp_region_later (S := fun w' => w'.cell? ⟨gj, k * 4, none⟩ = some (.int .i64 tx) ∧ BoxIn X T pre [.int .i64 sn, .int .i64 sl, .int .i64 sx, .slice (some ⟨gj, 0, none⟩) jn jc, .slice la ln lc, .int .i64 ssu] post w') 15 (by kernel_rfl) ⟨eD, hXD⟩ (fun hHeld0 => ?_)
    generalize hD : W.drew = D at *
    clear hD
    refine last.wpAnyL_take (i := 0) (v := (.pointer (some ⟨X, pre.length, none⟩))) rfl rfl (by kernel_rfl) (by kernel_rfl) (by kernel_rfl) (by kernel_rfl) (fun _ _ _ h => h) (Or.inl ⟨by rfl, ?_⟩) (by assumption) ?_
    · intro wq hSq; go_simp
    try simp only [Act.put, List.setIfInBounds_toArray, List.set_cons_zero, List.set_cons_succ]
    refine last.wpAnyL_take (i := 1) (v := (.pointer (some ⟨X, pre.length, none⟩))) rfl rfl (by kernel_rfl) (by kernel_rfl) (by kernel_rfl) (by kernel_rfl) (fun _ _ _ h => h) (Or.inl ⟨by rfl, ?_⟩) (by assumption) ?_
    · intro wq hSq; go_simp
    try simp only [Act.put, List.setIfInBounds_toArray, List.set_cons_zero, List.set_cons_succ]
    refine last.wpAnyL_take (i := 2) (v := (.pointer (some ⟨X, pre.length, none⟩))) rfl rfl (by kernel_rfl) (by kernel_rfl) (by kernel_rfl) (by kernel_rfl) (fun _ _ _ h => h) (Or.inl ⟨by rfl, ?_⟩) (by assumption) ?_
    · intro wq hSq; go_simp
    try simp only [Act.put, List.setIfInBounds_toArray, List.set_cons_zero, List.set_cons_succ]
    refine last.wpAnyL_take (i := 3) (v := (.pointer (some ⟨X, pre.length + 4, none⟩))) rfl rfl (by kernel_rfl) (by kernel_rfl) (by kernel_rfl) (by kernel_rfl) (fun _ _ _ h => h) (Or.inl ⟨by rfl, ?_⟩) (by assumption) ?_
    · intro wq hSq; go_simp
    try simp only [Act.put, List.setIfInBounds_toArray, List.set_cons_zero, List.set_cons_succ]
    refine last.wpAnyL_take (i := 4) (v := (.slice la ln lc)) rfl rfl (by kernel_rfl) (by kernel_rfl) (by kernel_rfl) (by kernel_rfl) (fun _ _ _ h => h) (Or.inl ⟨by rfl, ?_⟩) (by assumption) ?_
    · intro wq hSq; have q := hSq.2.cell 4 _ rfl; go_simp
    try simp only [Act.put, List.setIfInBounds_toArray, List.set_cons_zero, List.set_cons_succ]
    refine last.wpAnyL_take (i := 5) (v := (.pointer (some ⟨gj, k * 4, none⟩))) rfl rfl (by kernel_rfl) (by kernel_rfl) (by kernel_rfl) (by kernel_rfl) (fun _ _ _ h => h) (Or.inl ⟨by rfl, ?_⟩) (by assumption) ?_
    · intro wq hSq; go_simp
    try simp only [Act.put, List.setIfInBounds_toArray, List.set_cons_zero, List.set_cons_succ]
    refine last.wpAnyL_take (i := 6) (v := (.pointer (some ⟨gj, k * 4, none⟩))) rfl rfl (by kernel_rfl) (by kernel_rfl) (by kernel_rfl) (by kernel_rfl) (fun _ _ _ h => h) (Or.inl ⟨by rfl, ?_⟩) (by assumption) ?_
    · intro wq hSq; go_simp
    try simp only [Act.put, List.setIfInBounds_toArray, List.set_cons_zero, List.set_cons_succ]
    refine last.wpAnyL_take (i := 7) (v := (.pointer (some ⟨gj, k * 4, none⟩))) rfl rfl (by kernel_rfl) (by kernel_rfl) (by kernel_rfl) (by kernel_rfl) (fun _ _ _ h => h) (Or.inl ⟨by rfl, ?_⟩) (by assumption) ?_
    · intro wq hSq; go_simp
    try simp only [Act.put, List.setIfInBounds_toArray, List.set_cons_zero, List.set_cons_succ]
    refine last.wpAnyL_take (i := 8) (v := (.int .i64 tx)) rfl rfl (by kernel_rfl) (by kernel_rfl) (by kernel_rfl) (by kernel_rfl) (fun _ _ _ h => h) (Or.inl ⟨by rfl, ?_⟩) (by assumption) ?_
    · intro wq hSq; have q := hSq.1; go_simp
    try simp only [Act.put, List.setIfInBounds_toArray, List.set_cons_zero, List.set_cons_succ]
    refine last.wpAnyL_take (i := 9) (v := (.bool false)) rfl rfl (by kernel_rfl) (by kernel_rfl) (by kernel_rfl) (by kernel_rfl) (fun _ _ _ h => h) (Or.inl ⟨by rfl, ?_⟩) (by assumption) ?_
    · intro wq hSq; go_simp
    try simp only [Act.put, List.setIfInBounds_toArray, List.set_cons_zero, List.set_cons_succ]
    refine last.wpAnyL_take (i := 10) (v := (.agg #[.int .i64 tx, .bool false])) rfl rfl (by kernel_rfl) (by kernel_rfl) (by kernel_rfl) (by kernel_rfl) (fun _ _ _ h => h) (Or.inl ⟨by rfl, ?_⟩) (by assumption) ?_
    · intro wq hSq; go_simp
    try simp only [Act.put, List.setIfInBounds_toArray, List.set_cons_zero, List.set_cons_succ]
    refine last.wpAnyL_one (i := 11) (o := { dst := some 24, op := Op.buildSlice 25 1 #[(0, Operand.tmp 23)], type := 25, pos := "l11_coord.go:229", after := #[{ on := 10, ground := Ground.data }], guard := none }) (by kernel_rfl) rfl (fun K hK => ?_)
    go_simp
    rw [HVV.out]
    refine hK.out _ _ ?_ (fun hHeld => ?_)
    · exact ⟨eV, hXV⟩
    clear hK K hHeld0
    have hHeld0 := hHeld
    clear hHeld
    try simp only [Act.put, List.setIfInBounds_toArray, List.set_cons_zero, List.set_cons_succ]
    refine last.wpAnyL_one (i := 12) (o := { dst := some 25, op := Op.call { callee := Callee.builtin Builtin.append, args := #[Operand.tmp 17, Operand.tmp 24], argTypes := #[25, 25] }, type := 25, pos := "l11_coord.go:229", after := #[{ on := 4, ground := Ground.data }, { on := 11, ground := Ground.data }], guard := none }) (by kernel_rfl) rfl (fun K hK => ?_)
    refine step_append_run rfl (.tmp 17) (.tmp 24) 25 rfl (by kernel_rfl) (by kernel_rfl) hrun ?_
    refine hK.out _ _ ?_ (fun hHeld => ?_)
    · exact ⟨e6, hX6⟩
    clear hK K hHeld0
    have hHeld0 := hHeld
    clear hHeld
    try simp only [Act.put, List.setIfInBounds_toArray, List.set_cons_zero, List.set_cons_succ]
    refine last.wpAnyL_one (i := 13) (o := { dst := some 26, op := Op.nilCheck (Operand.tmp 13), type := 0, pos := "l11_coord.go:229", after := #[{ on := 0, ground := Ground.data }, { on := 0, ground := Ground.phase }, { on := 1, ground := Ground.phase }, { on := 2, ground := Ground.phase }, { on := 3, ground := Ground.phase }, { on := 4, ground := Ground.phase }, { on := 5, ground := Ground.phase }, { on := 6, ground := Ground.phase }, { on := 7, ground := Ground.phase }, { on := 8, ground := Ground.phase }, { on := 9, ground := Ground.phase }, { on := 10, ground := Ground.phase }, { on := 11, ground := Ground.phase }, { on := 12, ground := Ground.phase }], guard := none }) (by kernel_rfl) rfl (fun K hK => ?_)
    go_simp
    refine hK.out _ _ ?_ (fun hHeld => ?_)
    · exact ⟨e6, hX6⟩
    clear hK K hHeld0
    have hHeld0 := hHeld
    clear hHeld
    try simp only [Act.put, List.setIfInBounds_toArray, List.set_cons_zero, List.set_cons_succ]
    refine last.wpAnyL_one (i := 14) (o := { dst := some 27, op := Op.fieldAddr 27 (Operand.tmp 26) 4, type := 0, pos := "l11_coord.go:229", after := #[{ on := 13, ground := Ground.data }, { on := 0, ground := Ground.phase }, { on := 1, ground := Ground.phase }, { on := 2, ground := Ground.phase }, { on := 3, ground := Ground.phase }, { on := 4, ground := Ground.phase }, { on := 5, ground := Ground.phase }, { on := 6, ground := Ground.phase }, { on := 7, ground := Ground.phase }, { on := 8, ground := Ground.phase }, { on := 9, ground := Ground.phase }, { on := 10, ground := Ground.phase }, { on := 11, ground := Ground.phase }, { on := 12, ground := Ground.phase }], guard := none }) (by kernel_rfl) rfl (fun K hK => ?_)
    go_simp
    refine hK.out _ _ ?_ (fun hHeld => ?_)
    · exact ⟨e6, hX6⟩
    clear hK K hHeld0
    have hHeld0 := hHeld
    clear hHeld
    try simp only [Act.put, List.setIfInBounds_toArray, List.set_cons_zero, List.set_cons_succ]
    have t4 := hX6.cell 4 _ rfl
    have t4f := hX6.fz (pre.length + 4)
    refine last.wpAnyL_last (o := { dst := none, op := Op.store 25 (Operand.tmp 27) (Operand.tmp 25), type := 0, pos := "l11_coord.go:229", after := #[{ on := 14, ground := Ground.data }, { on := 12, ground := Ground.data }, { on := 12, ground := Ground.chain }, { on := 0, ground := Ground.phase }, { on := 1, ground := Ground.phase }, { on := 2, ground := Ground.phase }, { on := 3, ground := Ground.phase }, { on := 4, ground := Ground.phase }, { on := 5, ground := Ground.phase }, { on := 6, ground := Ground.phase }, { on := 7, ground := Ground.phase }, { on := 8, ground := Ground.phase }, { on := 9, ground := Ground.phase }, { on := 10, ground := Ground.phase }, { on := 11, ground := Ground.phase }, { on := 12, ground := Ground.phase }], guard := none }) (by kernel_rfl) rfl (by kernel_rfl) (fun K hK => ?_)
    go_simp
    refine hK.out _ _ ?_
    clear hK K
    rw [HU.out]
    first | (refine bodyPost_end (v := .tuple #[]) ?_ rfl ⟨rfl, HP.out⟩) | (refine bodyPost_ret (v := .tuple #[]) ?_ rfl ⟨rfl, HP.out⟩)
    simp [results, Try.results34, go_sem]
  · rw [if_pos rfl] at HW
    go_enter Try.func34, Try.ntmps34
    go_wp2_with fail
    rw [HW1.out, ← HW.out]
    refine last.wp_region_later (S := fun w' => w'.cell? ⟨gj, k * 4, none⟩ = some (.int .i64 tx) ∧ BoxIn X T pre [.int .i64 sn, .int .i64 sl, .int .i64 sx, .slice (some ⟨gj, 0, none⟩) jn jc, .slice la ln lc, .int .i64 ssu] post w') 15 (by kernel_rfl) ⟨eD, hXD⟩ (fun hHeld0 => ?_)
    generalize hD : W.drew = D at *
    clear hD
    refine last.wpAnyL_take (i := 0) (v := (.pointer (some ⟨X, pre.length, none⟩))) rfl rfl (by kernel_rfl) (by kernel_rfl) (by kernel_rfl) (by kernel_rfl) (fun _ _ _ h => h) (Or.inl ⟨by rfl, ?_⟩) (by assumption) ?_
    · intro wq hSq; go_simp
    try simp only [Act.put, List.setIfInBounds_toArray, List.set_cons_zero, List.set_cons_succ]
    refine last.wpAnyL_take (i := 1) (v := (.pointer (some ⟨X, pre.length, none⟩))) rfl rfl (by kernel_rfl) (by kernel_rfl) (by kernel_rfl) (by kernel_rfl) (fun _ _ _ h => h) (Or.inl ⟨by rfl, ?_⟩) (by assumption) ?_
    · intro wq hSq; go_simp
    try simp only [Act.put, List.setIfInBounds_toArray, List.set_cons_zero, List.set_cons_succ]
    refine last.wpAnyL_take (i := 2) (v := (.pointer (some ⟨X, pre.length, none⟩))) rfl rfl (by kernel_rfl) (by kernel_rfl) (by kernel_rfl) (by kernel_rfl) (fun _ _ _ h => h) (Or.inl ⟨by rfl, ?_⟩) (by assumption) ?_
    · intro wq hSq; go_simp
    try simp only [Act.put, List.setIfInBounds_toArray, List.set_cons_zero, List.set_cons_succ]
    refine last.wpAnyL_take (i := 3) (v := (.pointer (some ⟨X, pre.length + 4, none⟩))) rfl rfl (by kernel_rfl) (by kernel_rfl) (by kernel_rfl) (by kernel_rfl) (fun _ _ _ h => h) (Or.inl ⟨by rfl, ?_⟩) (by assumption) ?_
    · intro wq hSq; go_simp
    try simp only [Act.put, List.setIfInBounds_toArray, List.set_cons_zero, List.set_cons_succ]
    refine last.wpAnyL_take (i := 4) (v := (.slice la ln lc)) rfl rfl (by kernel_rfl) (by kernel_rfl) (by kernel_rfl) (by kernel_rfl) (fun _ _ _ h => h) (Or.inl ⟨by rfl, ?_⟩) (by assumption) ?_
    · intro wq hSq; have q := hSq.2.cell 4 _ rfl; go_simp
    try simp only [Act.put, List.setIfInBounds_toArray, List.set_cons_zero, List.set_cons_succ]
    refine last.wpAnyL_take (i := 5) (v := (.pointer (some ⟨gj, k * 4, none⟩))) rfl rfl (by kernel_rfl) (by kernel_rfl) (by kernel_rfl) (by kernel_rfl) (fun _ _ _ h => h) (Or.inl ⟨by rfl, ?_⟩) (by assumption) ?_
    · intro wq hSq; go_simp
    try simp only [Act.put, List.setIfInBounds_toArray, List.set_cons_zero, List.set_cons_succ]
    refine last.wpAnyL_take (i := 6) (v := (.pointer (some ⟨gj, k * 4, none⟩))) rfl rfl (by kernel_rfl) (by kernel_rfl) (by kernel_rfl) (by kernel_rfl) (fun _ _ _ h => h) (Or.inl ⟨by rfl, ?_⟩) (by assumption) ?_
    · intro wq hSq; go_simp
    try simp only [Act.put, List.setIfInBounds_toArray, List.set_cons_zero, List.set_cons_succ]
    refine last.wpAnyL_take (i := 7) (v := (.pointer (some ⟨gj, k * 4, none⟩))) rfl rfl (by kernel_rfl) (by kernel_rfl) (by kernel_rfl) (by kernel_rfl) (fun _ _ _ h => h) (Or.inl ⟨by rfl, ?_⟩) (by assumption) ?_
    · intro wq hSq; go_simp
    try simp only [Act.put, List.setIfInBounds_toArray, List.set_cons_zero, List.set_cons_succ]
    refine last.wpAnyL_take (i := 8) (v := (.int .i64 tx)) rfl rfl (by kernel_rfl) (by kernel_rfl) (by kernel_rfl) (by kernel_rfl) (fun _ _ _ h => h) (Or.inl ⟨by rfl, ?_⟩) (by assumption) ?_
    · intro wq hSq; have q := hSq.1; go_simp
    try simp only [Act.put, List.setIfInBounds_toArray, List.set_cons_zero, List.set_cons_succ]
    refine last.wpAnyL_take (i := 9) (v := (.bool true)) rfl rfl (by kernel_rfl) (by kernel_rfl) (by kernel_rfl) (by kernel_rfl) (fun _ _ _ h => h) (Or.inl ⟨by rfl, ?_⟩) (by assumption) ?_
    · intro wq hSq; go_simp
    try simp only [Act.put, List.setIfInBounds_toArray, List.set_cons_zero, List.set_cons_succ]
    refine last.wpAnyL_take (i := 10) (v := (.agg #[.int .i64 tx, .bool true])) rfl rfl (by kernel_rfl) (by kernel_rfl) (by kernel_rfl) (by kernel_rfl) (fun _ _ _ h => h) (Or.inl ⟨by rfl, ?_⟩) (by assumption) ?_
    · intro wq hSq; go_simp
    try simp only [Act.put, List.setIfInBounds_toArray, List.set_cons_zero, List.set_cons_succ]
    refine last.wpAnyL_one (i := 11) (o := { dst := some 24, op := Op.buildSlice 25 1 #[(0, Operand.tmp 23)], type := 25, pos := "l11_coord.go:229", after := #[{ on := 10, ground := Ground.data }], guard := none }) (by kernel_rfl) rfl (fun K hK => ?_)
    go_simp
    rw [HVV.out]
    refine hK.out _ _ ?_ (fun hHeld => ?_)
    · exact ⟨eV, hXV⟩
    clear hK K hHeld0
    have hHeld0 := hHeld
    clear hHeld
    try simp only [Act.put, List.setIfInBounds_toArray, List.set_cons_zero, List.set_cons_succ]
    refine last.wpAnyL_one (i := 12) (o := { dst := some 25, op := Op.call { callee := Callee.builtin Builtin.append, args := #[Operand.tmp 17, Operand.tmp 24], argTypes := #[25, 25] }, type := 25, pos := "l11_coord.go:229", after := #[{ on := 4, ground := Ground.data }, { on := 11, ground := Ground.data }], guard := none }) (by kernel_rfl) rfl (fun K hK => ?_)
    refine step_append_run rfl (.tmp 17) (.tmp 24) 25 rfl (by kernel_rfl) (by kernel_rfl) hrun ?_
    refine hK.out _ _ ?_ (fun hHeld => ?_)
    · exact ⟨e6, hX6⟩
    clear hK K hHeld0
    have hHeld0 := hHeld
    clear hHeld
    try simp only [Act.put, List.setIfInBounds_toArray, List.set_cons_zero, List.set_cons_succ]
    refine last.wpAnyL_one (i := 13) (o := { dst := some 26, op := Op.nilCheck (Operand.tmp 13), type := 0, pos := "l11_coord.go:229", after := #[{ on := 0, ground := Ground.data }, { on := 0, ground := Ground.phase }, { on := 1, ground := Ground.phase }, { on := 2, ground := Ground.phase }, { on := 3, ground := Ground.phase }, { on := 4, ground := Ground.phase }, { on := 5, ground := Ground.phase }, { on := 6, ground := Ground.phase }, { on := 7, ground := Ground.phase }, { on := 8, ground := Ground.phase }, { on := 9, ground := Ground.phase }, { on := 10, ground := Ground.phase }, { on := 11, ground := Ground.phase }, { on := 12, ground := Ground.phase }], guard := none }) (by kernel_rfl) rfl (fun K hK => ?_)
    go_simp
    refine hK.out _ _ ?_ (fun hHeld => ?_)
    · exact ⟨e6, hX6⟩
    clear hK K hHeld0
    have hHeld0 := hHeld
    clear hHeld
    try simp only [Act.put, List.setIfInBounds_toArray, List.set_cons_zero, List.set_cons_succ]
    refine last.wpAnyL_one (i := 14) (o := { dst := some 27, op := Op.fieldAddr 27 (Operand.tmp 26) 4, type := 0, pos := "l11_coord.go:229", after := #[{ on := 13, ground := Ground.data }, { on := 0, ground := Ground.phase }, { on := 1, ground := Ground.phase }, { on := 2, ground := Ground.phase }, { on := 3, ground := Ground.phase }, { on := 4, ground := Ground.phase }, { on := 5, ground := Ground.phase }, { on := 6, ground := Ground.phase }, { on := 7, ground := Ground.phase }, { on := 8, ground := Ground.phase }, { on := 9, ground := Ground.phase }, { on := 10, ground := Ground.phase }, { on := 11, ground := Ground.phase }, { on := 12, ground := Ground.phase }], guard := none }) (by kernel_rfl) rfl (fun K hK => ?_)
    go_simp
    refine hK.out _ _ ?_ (fun hHeld => ?_)
    · exact ⟨e6, hX6⟩
    clear hK K hHeld0
    have hHeld0 := hHeld
    clear hHeld
    try simp only [Act.put, List.setIfInBounds_toArray, List.set_cons_zero, List.set_cons_succ]
    have t4 := hX6.cell 4 _ rfl
    have t4f := hX6.fz (pre.length + 4)
    refine last.wpAnyL_last (o := { dst := none, op := Op.store 25 (Operand.tmp 27) (Operand.tmp 25), type := 0, pos := "l11_coord.go:229", after := #[{ on := 14, ground := Ground.data }, { on := 12, ground := Ground.data }, { on := 12, ground := Ground.chain }, { on := 0, ground := Ground.phase }, { on := 1, ground := Ground.phase }, { on := 2, ground := Ground.phase }, { on := 3, ground := Ground.phase }, { on := 4, ground := Ground.phase }, { on := 5, ground := Ground.phase }, { on := 6, ground := Ground.phase }, { on := 7, ground := Ground.phase }, { on := 8, ground := Ground.phase }, { on := 9, ground := Ground.phase }, { on := 10, ground := Ground.phase }, { on := 11, ground := Ground.phase }, { on := 12, ground := Ground.phase }], guard := none }) (by kernel_rfl) rfl (by kernel_rfl) (fun K hK => ?_)
    go_simp
    refine hK.out _ _ ?_
    clear hK K
    rw [HU.out]
    first | (refine bodyPost_end (v := .tuple #[]) ?_ rfl ⟨rfl, HP.out⟩) | (refine bodyPost_ret (v := .tuple #[]) ?_ rfl ⟨rfl, HP.out⟩)
    simp [results, Try.results34, go_sem]
end Go.Proofs.Ytdeaiefhegjalaa.cos

namespace Go.Proofs.Ytdeaiefhegjalaa.cos
open Go Go.RowKit Go.Proofs.Ytdeaiefhegjalaa.base Go.Proofs.Ytdeaiefhegjalaa.ords

theorem asc_count {zs : List Int} (ha : Asc zs) (n : Int) : zs.filter (fun x => decide (x < n)) = zs.take (zs.countP fun x => decide (x < n)) ∧ (n ∉ zs → zs.filter (fun x => decide (n < x)) = zs.drop (zs.countP fun x => decide (x < n))) := by
  induction zs with
  | nil => exact ⟨rfl, fun _ => rfl⟩
  | cons z zs ih =>
    have hp : (∀ y ∈ zs, z < y) ∧ Asc zs := by
      unfold Asc at ha
      rw [List.pairwise_cons] at ha
      exact ha
    obtain ⟨h1, h2⟩ := ih hp.2
    by_cases hz : z < n
    · refine ⟨?_, fun hn => ?_⟩
      · rw [List.filter_cons_of_pos (by simpa using hz), List.countP_cons_of_pos (by simpa using hz), List.take_succ_cons, h1]
      · rw [List.filter_cons_of_neg (by simp; omega), List.countP_cons_of_pos (by simpa using hz), List.drop_succ_cons, h2 (fun e => hn (List.mem_cons_of_mem _ e))]
    · have h0 : zs.countP (fun x => decide (x < n)) = 0 := List.countP_eq_zero.2 fun y hy => by have := hp.1 y hy; simp; omega
      refine ⟨?_, fun hn => ?_⟩
      · rw [List.filter_cons_of_neg (by simpa using hz), List.countP_cons_of_neg (by simpa using hz), h1, h0]
        rfl
      · have hne : z ≠ n := fun e => hn (by rw [e]; exact List.mem_cons_self)
        rw [List.countP_cons_of_neg (by simpa using hz), h0, List.drop_zero]
        refine List.filter_eq_self.2 fun y hy => ?_
        rcases List.mem_cons.1 hy with e | e
        · rw [e]; simp; omega
        · have := hp.1 y e; simp; omega
/-- a number that is not there is put behind as many as are below it -/
theorem putI_count {zs : List Int} (ha : Asc zs) {n : Int} (hn : n ∉ zs) : putI zs n = zs.take (zs.countP fun x => decide (x < n)) ++ n :: zs.drop (zs.countP fun x => decide (x < n)) := by
  unfold putI
  rw [if_neg hn, (asc_count ha n).1, (asc_count ha n).2 hn]
end Go.Proofs.Ytdeaiefhegjalaa.cos

namespace Go.Proofs.Ytdeaiefhegjalaa.cos
open Go Go.RowKit Go.Proofs.Ytdeaiefhegjalaa.base Go.Proofs.Ytdeaiefhegjalaa.pairs Go.Proofs.Ytdeaiefhegjalaa.ords Go.Proofs.Ytdeaiefhegjalaa.lay Go.Proofs.Ytdeaiefhegjalaa.wds
set_option linter.unusedVariables false
set_option linter.unusedSimpArgs false

/-- one who decides, with a shard's yes at the job at k -/
def yesC (c : Co) (k : Nat) (hk : k < c.2.2.2.1.length) (shard : Int) : Co := (c.1, c.2.1, c.2.2.1, c.2.2.2.1.set k (c.2.2.2.1[k].1, c.2.2.2.1[k].2.1, c.2.2.2.1[k].2.2.1, putI c.2.2.2.1[k].2.2.2 shard), c.2.2.2.2.1, c.2.2.2.2.2)
/-- what is heard -/
def heardC (c : Co) (k : Nat) (hk : k < c.2.2.2.1.length) (shard : Int) (yes : Bool) : Co := if shard ∈ shardsOf c.1 c.2.2.2.1[k].2.1 then votedC c k c.2.2.2.1[k] shard yes else c
theorem InCo.jobs {w : World} {X : Nat} {T : TypeId} {pre post : List Value} {gj jn jc : Nat} {la : Option Addr} {ln lc : Nat} {c : Co} {F : List Nat} (h : InCo w X T pre post (some ⟨gj, 0, none⟩) jn jc la ln lc c F) : SlG jobR w (some ⟨gj, 0, none⟩) jn c.2.2.2.1 := by
  obtain ⟨vx, vy, F1, F2, e, hwf, hj, hl, hFe, hnd⟩ := coord_own.1 h.own
  simp only [List.cons.injEq, and_true, true_and] at e
  obtain ⟨rfl, rfl⟩ := e
  obtain ⟨vj, qj, e, hF1, hJ⟩ := hj
  simp only [List.cons.injEq, and_true] at e
  subst e
  exact hJ.sl
theorem InCo.wf {w : World} {X : Nat} {T : TypeId} {pre post : List Value} {ja : Option Addr} {jn jc : Nat} {la : Option Addr} {ln lc : Nat} {c : Co} {F : List Nat} (h : InCo w X T pre post ja jn jc la ln lc c F) : WfCo c := by
  obtain ⟨vx, vy, F1, F2, e, hwf, hj, hl, hFe, hnd⟩ := coord_own.1 h.own
  exact hwf
/-- what addYes must do -/
def AddsYes (f : FuncId) : Prop := ∀ (X : Nat) (T : TypeId) (pre post : List Value) (gj jn jc : Nat) (la : Option Addr) (ln lc : Nat) (c : Co) (F : List Nat) (k : Nat) (hk : k < c.2.2.2.1.length) (shard : Int) (w : World), InCo w X T pre post (some ⟨gj, 0, none⟩) jn jc la ln lc c F → (Lit.int .i64 shard).wf = true → Asc c.2.2.2.1[k].2.2.2 → c.2.2.2.1[k].2.2.2.length ≤ 8 →
  Calls Try.prog f #[.pointer (some ⟨gj, k * 4, none⟩), .int .i64 shard] w fun e w' => e = .returned (.tuple #[]) ∧ ∃ F', InCo w' X T pre post (some ⟨gj, 0, none⟩) jn jc la ln lc (yesC c k hk shard) F' ∧ lay.Frame (X :: F) w w' ∧ Fresh w F F'
set_option maxRecDepth 100000 in
set_option maxHeartbeats 4000000 in
theorem i_hear (HAY : AddsYes 33) (X : Nat) (T : TypeId) (pre post : List Value) (gj jn jc : Nat) (la : Option Addr) (ln lc : Nat) (c : Co) (F : List Nat) (k : Nat) (hk : k < c.2.2.2.1.length) (shard : Int) (yes : Bool) (w : World) (h : InCo w X T pre post (some ⟨gj, 0, none⟩) jn jc la ln lc c F) (hln : c.2.2.2.2.1.length ≤ 1048576) (hsw : (Lit.int .i64 shard).wf = true) (hks : ∀ p ∈ c.2.2.2.1[k].2.1, p.2.1.size ≤ 1099511627776) (hop : opsOk c.2.2.2.1[k].2.1 = true) (hyl : c.2.2.2.1[k].2.2.2.length ≤ 8 ∧ Asc c.2.2.2.1[k].2.2.2) :
    Calls Try.prog 19 #[.pointer (some ⟨X, pre.length, none⟩), .pointer (some ⟨gj, k * 4, none⟩), .int .i64 shard, .bool yes] w fun e w' => e = .returned (.tuple #[]) ∧ CoPost w X T pre post F (heardC c k hk shard yes) w' := by
  obtain ⟨c0, c2, ⟨oa, ol, oc, c1, hSo, hoc⟩, _⟩ := job_at h.jobs k hk
  simp only [Nat.zero_add] at c0 c1 c2
  have hol := hSo.1
  have ho1 := opsOk_len hop
  obtain ⟨ob, oo, rfl, _⟩ := hSo.2.2.2 (by omega)
  have hgl := World.block_lt_of_cell? _ _ c1
  have hnw := h.wf.n
  have HSH := Hid.mk' (fun wx (hx : Below w.heap.size w wx) => impl_shardsOf ob oo ol oc c.2.2.2.1[k].2.1 c.1 wx (hSo.below hx) hks (by omega) hnw)
  have HO := Hid.mk' c1
  have HX := Hid.mk' h.box
  have HI := Hid.mk' h
  have hdW : Below w.heap.size w w.drew := (Below.refl _ _).drew
  have HYL := Hid.mk' hyl
  have hs8 := shards_len c.1 c.2.2.2.1[k].2.1 ho1.2
  obtain ⟨sh, hsh⟩ : ∃ sh, shardsOf c.1 c.2.2.2.1[k].2.1 = sh := ⟨_, rfl⟩
  have HSE := Hid.mk' hsh
  rw [hsh] at HSH hs8
  clear h c0 c1 c2 hSo hoc hol ho1 hks hop hyl hsh
  go_enter Try.func19, Try.ntmps19
  go_wp2_with fail
  refine last.wp_region_later (S := fun w' => Below w.heap.size w w') 9 (by kernel_rfl) hdW (fun hHeld0 => ?_)
  generalize hD : w.drew = D at *
  clear hD
  refine last.wpAnyL_take (i := 0) (v := (.pointer (some ⟨gj, k * 4, none⟩))) rfl rfl (by kernel_rfl) (by kernel_rfl) (by kernel_rfl) (by kernel_rfl) (fun _ _ _ h => h) (Or.inl ⟨by rfl, ?_⟩) (by assumption) ?_
  · intro wq hSq; go_simp
  try simp only [Act.put, List.setIfInBounds_toArray, List.set_cons_zero, List.set_cons_succ]
  refine last.wpAnyL_take (i := 1) (v := (.pointer (some ⟨gj, k * 4, none⟩))) rfl rfl (by kernel_rfl) (by kernel_rfl) (by kernel_rfl) (by kernel_rfl) (fun _ _ _ h => h) (Or.inl ⟨by rfl, ?_⟩) (by assumption) ?_
  · intro wq hSq; go_simp
  try simp only [Act.put, List.setIfInBounds_toArray, List.set_cons_zero, List.set_cons_succ]
  refine last.wpAnyL_take (i := 2) (v := (.pointer (some ⟨gj, k * 4 + 1, none⟩))) rfl rfl (by kernel_rfl) (by kernel_rfl) (by kernel_rfl) (by kernel_rfl) (fun _ _ _ h => h) (Or.inl ⟨by rfl, ?_⟩) (by assumption) ?_
  · intro wq hSq; go_simp
  try simp only [Act.put, List.setIfInBounds_toArray, List.set_cons_zero, List.set_cons_succ]
  refine last.wpAnyL_take (i := 3) (v := (.slice (some ⟨ob, oo, none⟩) ol oc)) rfl rfl (by kernel_rfl) (by kernel_rfl) (by kernel_rfl) (by kernel_rfl) (fun _ _ _ h => h) (Or.inl ⟨by rfl, ?_⟩) (by assumption) ?_
  · intro wq hSq; have q := (hSq.cell (p := ⟨gj, k * 4 + 1, none⟩) hgl).trans HO.out; go_simp
  try simp only [Act.put, List.setIfInBounds_toArray, List.set_cons_zero, List.set_cons_succ]
  refine last.wpAnyL_take (i := 4) (v := (.pointer (some ⟨X, pre.length, none⟩))) rfl rfl (by kernel_rfl) (by kernel_rfl) (by kernel_rfl) (by kernel_rfl) (fun _ _ _ h => h) (Or.inl ⟨by rfl, ?_⟩) (by assumption) ?_
  · intro wq hSq; go_simp
  try simp only [Act.put, List.setIfInBounds_toArray, List.set_cons_zero, List.set_cons_succ]
  refine last.wpAnyL_take (i := 5) (v := (.pointer (some ⟨X, pre.length, none⟩))) rfl rfl (by kernel_rfl) (by kernel_rfl) (by kernel_rfl) (by kernel_rfl) (fun _ _ _ h => h) (Or.inl ⟨by rfl, ?_⟩) (by assumption) ?_
  · intro wq hSq; go_simp
  try simp only [Act.put, List.setIfInBounds_toArray, List.set_cons_zero, List.set_cons_succ]
  refine last.wpAnyL_take (i := 6) (v := (.pointer (some ⟨X, pre.length, none⟩))) rfl rfl (by kernel_rfl) (by kernel_rfl) (by kernel_rfl) (by kernel_rfl) (fun _ _ _ h => h) (Or.inl ⟨by rfl, ?_⟩) (by assumption) ?_
  · intro wq hSq; go_simp
  try simp only [Act.put, List.setIfInBounds_toArray, List.set_cons_zero, List.set_cons_succ]
  refine last.wpAnyL_take (i := 7) (v := (.int .i64 c.1)) rfl rfl (by kernel_rfl) (by kernel_rfl) (by kernel_rfl) (by kernel_rfl) (fun _ _ _ h => h) (Or.inl ⟨by rfl, ?_⟩) (by assumption) ?_
  · intro wq hSq; have q := (cells6p (HX.out.below hSq)).1; go_simp
  try simp only [Act.put, List.setIfInBounds_toArray, List.set_cons_zero, List.set_cons_succ]
  refine last.wpAnyL_one (i := 8) (o := { dst := some 17, op := Op.call { callee := Callee.value (Operand.func 10), args := #[Operand.tmp 12, Operand.tmp 16], argTypes := #[34, 3] }, type := 35, pos := "l11_coord.go:212", after := #[{ on := 3, ground := Ground.data }, { on := 7, ground := Ground.data }], guard := none }) (by kernel_rfl) rfl (fun K hK => ?_)
  refine stepg.call2 rfl 10 (.tmp 12) (.tmp 16) _ rfl (fun _ _ => rfl) (.slice (some ⟨ob, oo, none⟩) ol oc) (.int .i64 c.1) (by kernel_rfl) (by kernel_rfl) _ (HSH.out _ hdW) ?_
  rintro e w3 ⟨gs, ns, cs, rfl, hZ, hb3'⟩
  refine ⟨_, rfl, ?_⟩
  have hb3 := hdW.trans (hb3'.mono hdW.size)
  refine hK.out _ _ ?_ (fun hHeld => ?_)
  · exact hb3
  clear hK K hHeld0
  have hHeld0 := hHeld
  clear hHeld
  try simp only [Act.put, List.setIfInBounds_toArray, List.set_cons_zero, List.set_cons_succ]
  refine last.wpAnyL_last (o := { dst := some 8, op := Op.assign (Operand.tmp 17), type := 35, pos := "l11_coord.go:212", after := #[{ on := 8, ground := Ground.data }, { on := 8, ground := Ground.chain }, { on := 0, ground := Ground.phase }, { on := 1, ground := Ground.phase }, { on := 2, ground := Ground.phase }, { on := 3, ground := Ground.phase }, { on := 4, ground := Ground.phase }, { on := 5, ground := Ground.phase }, { on := 6, ground := Ground.phase }, { on := 7, ground := Ground.phase }, { on := 8, ground := Ground.phase }], guard := none }) (by kernel_rfl) rfl (by kernel_rfl) (fun K hK => ?_)
  go_simp
  refine hK.out _ _ ?_
  clear hK K
  clear hHeld0
  have hzl := hZ.1
  have HCT := Hid.mk' (i_contains (some ⟨gs, 0, none⟩) ns cs sh shard w3 hZ.sl)
  have HI3 := Hid.mk' (HI.out.below hb3)
  by_cases hin : shard ∈ sh
  rotate_left
  · rw [decide_eq_false hin] at HCT
    have HP : Hid (CoPost w X T pre post F (heardC c k hk shard yes) w3) := by
      show CoPost _ _ _ _ _ _ _ _
      unfold heardC
      rw [HSE.out, if_neg hin]
      exact CoPost.same HI.out hb3
    clear hin
    go_wp2_with fail
    refine HCT.out.mono ?_
    rintro e w4 ⟨rfl, hw4⟩
    replace hw4 := hw4.symm
    subst hw4
    clear HCT
    go_wp2_with fail
    first | (refine bodyPost_ret (v := .tuple #[]) ?_ rfl ⟨rfl, HP.out⟩) | (refine bodyPost_end (v := .tuple #[]) ?_ rfl ⟨rfl, HP.out⟩)
    simp [results, Try.results19, go_sem]
  rw [decide_eq_true hin] at HCT
  have HHE : Hid (∀ y, heardC c k hk shard y = votedC c k c.2.2.2.1[k] shard y) := fun y => by unfold heardC; rw [HSE.out, if_pos hin]
  clear hin
  cases yes
  · have HCH := Hid.mk' (i_choose X T pre post gj jn jc la ln lc c F k hk false w3 HI3.out hln)
    have HE : Hid (logC (stateC c k hk (if false = true then 2 else 3)) c.2.2.2.1[k].1 false = heardC c k hk shard false) := by
      show _ = _
      rw [HHE.out]
      simp [logC, stateC, votedC, votedJ, addCh]
    rw [HE.out] at HCH
    go_wp2_with fail
    refine HCT.out.mono ?_
    rintro e w4 ⟨rfl, hw4⟩
    replace hw4 := hw4.symm
    subst hw4
    clear HCT
    go_wp2_with fail
    refine HCH.out.mono ?_
    rintro e w5 ⟨rfl, hP5⟩
    have HP := Hid.mk' (CoPost.trans (lay.Frame.of_below hb3) hP5)
    clear HCH hP5
    go_wp2_with fail
    first | (refine bodyPost_end (v := .tuple #[]) ?_ rfl ⟨rfl, HP.out⟩) | (refine bodyPost_ret (v := .tuple #[]) ?_ rfl ⟨rfl, HP.out⟩)
    simp [results, Try.results19, go_sem]
  · have HAD := Hid.mk' (HAY X T pre post gj jn jc la ln lc c F k hk shard w3 HI3.out hsw HYL.out.2 HYL.out.1)
    clear HAY
    go_wp2_with fail
    refine HCT.out.mono ?_
    rintro e w4 ⟨rfl, hw4⟩
    replace hw4 := hw4.symm
    subst hw4
    clear HCT
    go_wp2_with fail
    refine HAD.out.mono ?_
    rintro e w5 ⟨rfl, F5, hI5, hF5, hfr⟩
    have hk5 : k < (yesC c k hk shard).2.2.2.1.length := by simpa [yesC] using hk
    obtain ⟨_, _, _, ⟨ya, yl, yc, c3, hSy, hyc⟩⟩ := job_at hI5.jobs k hk5
    simp only [Nat.zero_add] at c3
    have hyl5 : yl = (putI c.2.2.2.1[k].2.2.2 shard).length := by rw [← hSy.1]; simp [yesC]
    have HY5 := Hid.mk' hyl5
    have hy9 : yl ≤ 9 := by have := putI_len c.2.2.2.1[k].2.2.2 shard; have := HYL.out.1; omega
    have HFF := Hid.mk' ((lay.Frame.of_below (G := X :: F) hb3).trans hF5 (Fresh.refl _ _))
    have HNZ := Hid.mk' hzl
    clear HAD hyl5 hSy hyc hzl
    by_cases hall : yl = ns
    · have hq : ((yl : Int) == (ns : Int)) = true := by simp; omega
      have HCH := Hid.mk' (i_choose X T pre post gj jn jc la ln lc (yesC c k hk shard) F5 k hk5 true w5 hI5 (by simpa [yesC] using hln))
      have HE : Hid (logC (stateC (yesC c k hk shard) k hk5 (if true = true then 2 else 3)) (yesC c k hk shard).2.2.2.1[k].1 true = heardC c k hk shard true) := by
        show _ = _
        have h1 : (putI c.2.2.2.1[k].2.2.2 shard).length = sh.length := by rw [← HY5.out, hall, HNZ.out]
        rw [HHE.out]
        simp [logC, stateC, yesC, votedC, votedJ, addCh, HSE.out, h1]
      rw [HE.out] at HCH
      clear hall hI5
      go_wp2_with fail
      refine HCH.out.mono ?_
      rintro e w6 ⟨rfl, hP6⟩
      have HP : Hid (CoPost w X T pre post F (heardC c k hk shard true) w6) := by
        obtain ⟨ja', jn', jc', la', ln', lc', F', h1, h2, h3⟩ := hP6
        exact ⟨ja', jn', jc', la', ln', lc', F', h1, HFF.out.trans h2 (fun b hb => by
          rcases List.mem_cons.1 hb with e | e
          · exact .inl (by rw [e]; exact List.mem_cons_self)
          · rcases hfr b e with e2 | e2
            · exact .inl (List.mem_cons_of_mem _ e2)
            · exact .inr (by have := hb3.size; omega)), fun b hb => by
          rcases h3 b hb with e | e
          · rcases hfr b e with e2 | e2
            · exact .inl e2
            · exact .inr (by have := hb3.size; omega)
          · exact .inr (by have := HFF.out.size; omega)⟩
      clear HCH hP6
      go_wp2_with fail
      first | (refine bodyPost_end (v := .tuple #[]) ?_ rfl ⟨rfl, HP.out⟩) | (refine bodyPost_ret (v := .tuple #[]) ?_ rfl ⟨rfl, HP.out⟩)
      simp [results, Try.results19, go_sem]
    · have hq : ((yl : Int) == (ns : Int)) = false := by simp; omega
      have HE : Hid (yesC c k hk shard = heardC c k hk shard true) := by
        show _ = _
        have h1 : (putI c.2.2.2.1[k].2.2.2 shard).length ≠ sh.length := by rw [← HY5.out, HNZ.out]; exact hall
        rw [HHE.out]
        simp [yesC, votedC, votedJ, addCh, HSE.out, h1]
      have HP : Hid (CoPost w X T pre post F (heardC c k hk shard true) w5) := by
        show CoPost _ _ _ _ _ _ _ _
        rw [← HE.out]
        exact ⟨_, _, _, _, _, _, F5, hI5, HFF.out, fun b hb => by
          rcases hfr b hb with e2 | e2
          · exact .inl e2
          · exact .inr (by have := hb3.size; omega)⟩
      clear hall hI5
      go_wp2_with fail
      first | (refine bodyPost_end (v := .tuple #[]) ?_ rfl ⟨rfl, HP.out⟩) | (refine bodyPost_ret (v := .tuple #[]) ?_ rfl ⟨rfl, HP.out⟩)
      simp [results, Try.results19, go_sem]
end Go.Proofs.Ytdeaiefhegjalaa.cos
