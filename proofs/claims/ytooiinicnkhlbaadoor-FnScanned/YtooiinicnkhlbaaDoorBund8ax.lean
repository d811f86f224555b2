/- The specification's records, read one behind the other. The program's records: GetRec and ReadRecs, whose error is asked for by errors.As. What the exact law of GetRec keeps from step to step: the bytes that were handed in, the answer's record and the specification's, each in its box. What all laws share whose road reads the table of the rounds' words and, by errors.As, the type of errors: both variables read as their data. -/
import Derived.Test.YtooiinicnkhlbaaDoorBund8au
import Derived.Test.YtooiinicnkhlbaaDoorBund8aw
import Derived.Test.YtooiinicnkhlbaaDoorBund8ap
import Derived.Test.YtooiinicnkhlbaaDoorBund8at
import Derived.LaidHandle
import Derived.LaidLaws
namespace Go.Proofs.YtooiinicnkhlbaaDoor.recs
open Go Go.RowKit Go.Proofs.YtooiinicnkhlbaaDoor.base Go.Proofs.YtooiinicnkhlbaaDoor.pairs Go.Proofs.YtooiinicnkhlbaaDoor.ords
set_option linter.unusedVariables false
set_option linter.unusedSimpArgs false

theorem infoR : (Tryd.prog.info? 26).map (fun i => (i.zero, i.size, i.bytes)) = some (some (.agg #[.int .i64 0, .int .i64 0, .slice none 0 0]), 3, 40) := by kernel_rfl
/-- what ReadRecs answers -/
def ReadPost (w : World) (r : List Rc × Nat) (e : Ending) (w' : World) : Prop :=
  ∃ v hs, e = .returned (.tuple #[v, .int .i64 (r.2 : Int)]) ∧ OwnR w' w.heap.size v r.1 hs ∧ Below w.heap.size w w'
theorem readPost_mk {w w' : World} {r : List Rc × Nat} {acc : List Rc} {p : Nat} {v : Value} {hs : List Value} (hr : r = (acc, p)) (hO : OwnR w' w.heap.size v acc hs) (hB : Below w.heap.size w w') : ReadPost w r (.returned (.tuple #[v, .int .i64 (p : Int)])) w' := by
  subst hr; exact ⟨v, hs, rfl, hO, hB⟩
theorem recOk_small {r : Rc} (h : recOk r = true) : smallR r := by
  obtain ⟨h1, h2⟩ := (recOk_iff r).1 h
  have hk : 1 ≤ r.1 ∧ r.1 ≤ 3 := by rcases h2 with ⟨h3, _⟩ | ⟨h3, _⟩ <;> omega
  refine ⟨WalkArith.wf_i64 (by omega), WalkArith.wf_i64 (by omega), fun o ho => ?_⟩
  rcases h2 with ⟨_, h3⟩ | ⟨_, h3⟩
  · have h4 := (odOk_iff o).1 (((opsOk_iff _).1 h3).1.1 o ho)
    have := keyOk_size h4.2.2.1
    exact ⟨WalkArith.wf_i64 (by omega), by unfold maxLen; omega, by unfold maxLen; omega⟩
  · rw [h3] at ho; exact absurd ho List.not_mem_nil
theorem one_rec_cells (w : World) (a b : Int) (v : Value) (t : TypeId) : ∀ j u, ([.int .i64 a, .int .i64 b, v] : List Value)[j]? = some u → (w.alloc (.cells #[.int .i64 a, .int .i64 b, v] t)).cell? ((⟨w.heap.size, 0, none⟩ : Addr).add j) = some u := cells_three w (.int .i64 a) (.int .i64 b) v t
theorem one_rec_oneCell (a b : Int) {v : Value} (h : v.oneCell' = true) : ∀ u ∈ ([.int .i64 a, .int .i64 b, v] : List Value), u.oneCell' = true := by
  intro u hu
  simp at hu
  rcases hu with rfl | rfl | rfl
  · rfl
  · rfl
  · exact h

set_option maxRecDepth 100000 in
set_option maxHeartbeats 4000000 in
theorem spec_readRecs (a : Option Addr) (len cap : Nat) (bs : List UInt8) (w : World) (h : Sl w a len bs) (hcap : len ≤ cap) (hsz : len ≤ 1099511627776) :
    Calls Tryd.prog 34 #[.slice a len cap] w fun e w' => ReadPost w (readRecs bs) e w' := by
  obtain ⟨i0, hi, hz0, hz1, hz2⟩ := info_parts infoR
  have hl := h.1
  have hba : Below w.heap.size w (w.alloc (.cells #[] 26)) := (Below.refl _ _).alloc (Nat.le_refl _) _
  have hOm := ownR_made w w.heap.size (Nat.le_refl _)
  have HR0 : Hid (readRecs bs = readGo bs (bs.length + 1 - 0) 0 []) := rfl
  generalize readRecs bs = R at *
  go_enter Tryd.func34, Tryd.ntmps34
  go_wp2_with (at_builtin; fail)
  go_loopw [4, 5] (fun ov pv wr => ∃ (p : Nat) (acc : List Rc) (hs : List Value) (g cp : Nat), ov = .slice (some ⟨g, 0, none⟩) acc.length cp ∧ pv = .int .i64 (p : Int) ∧ p ≤ len ∧ acc.length ≤ p ∧ OwnR wr w.heap.size (.slice (some ⟨g, 0, none⟩) acc.length cp) acc hs ∧ Below w.heap.size w wr ∧ Hid (R = readGo bs (bs.length + 1 - p) p acc)) (fun _ pv _ => len - (intOf pv).toNat)
  case atStart => exact ⟨0, [], [], w.heap.size, 0, rfl, rfl, Nat.zero_le _, Nat.le_refl _, hOm, hba, HR0⟩
  case round =>
    clear HR0 hOm hba
    obtain ⟨p, acc, hs, g, cp, rfl, rfl, hp, hap, hO, hB, HR⟩ := hrel
    have hbw := hB.size
    by_cases hlt : p < len
    · have hpi : (p : Int) < (len : Int) := by omega
      have hst := readGo_step bs p acc (by omega)
      have HG := Hid.mk' (spec_getRec a len cap (p : Int) bs wr (h.below hB) hcap hsz (WalkArith.wf_i64 (by omega)))
      rcases hg : getRec bs (p : Int) with _ | ⟨r, q⟩
      · rw [hg] at HG hst
        have HE : Hid (R = (acc, p)) := by show _ = _; rw [HR.out, hst]
        clear hg hst HR
        go_wp2_with (at_builtin; fail)
        refine HG.out.mono ?_
        rintro e w1 ⟨v, he, hV, hb1⟩
        simp only [resR, resQ, Option.isSome_none] at he hV
        subst he
        have hO1 := hO.below hb1
        have hB1 := hB.trans (hb1.mono hbw)
        have hO2 := hO1.below ((Below.refl _ _).alloc (Nat.le_refl _) (.cells #[.int .i64 0, .int .i64 0, v] 26))
        have hB2 := hB1.alloc hB1.size (.cells #[.int .i64 0, .int .i64 0, v] 26)
        rcases hV.shape with ⟨rfl, _⟩ | ⟨gv, cv, rfl, _⟩
        all_goals
          clear hO hO1 hB1 hb1 HG hV
          go_wp2_with (at_builtin; fail)
          go_ret2
          exact readPost_mk HE.out hO2 hB2
      · have hga := getRec_at hg
        simp only [Int.toNat_natCast] at hga
        rw [hg] at HG hst
        have HE : Hid (R = readGo bs (bs.length + 1 - q) q (acc ++ [r])) := by show _ = _; rw [HR.out, hst]
        have hsr := recOk_small hga.2.1
        have hql : q ≤ len := by omega
        have hpq : p < q := hga.2.2.1
        clear hg hst HR hga
        have hc3 : acc.length + 1 ≤ maxLen := by unfold maxLen; omega
        have hc4 : (acc.length + 1) * 40 ≤ 140737488355328 := by omega
        go_wp2_with (at_builtin; fail)
        refine HG.out.mono ?_
        rintro e w1 ⟨v, he, hV, hb1⟩
        simp only [resR, resQ, Option.isSome_some] at he hV
        subst he
        have hO1 := hO.below hb1
        have hB1 := hB.trans (hb1.mono hbw)
        have hVlt : ∀ k, v.ownBlock = some k → wr.heap.size ≤ k := fun k hk => (hV.lt k hk).1
        have hout : ∀ k, v.ownBlock = some k → ¬ BlkR (.slice (some ⟨g, 0, none⟩) acc.length cp) hs k := fun k hk hb => by have h1 := hVlt k hk; have h2 := (hO.lt k hb).2; omega
        have hV1 := (hV.mono (base' := w.heap.size) hbw)
        have hba2 : Below w1.heap.size w1 (w1.alloc (.cells #[.int .i64 r.1, .int .i64 r.2.1, v] 26)) := (Below.refl _ _).alloc (Nat.le_refl _) _
        have hO2 := hO1.below hba2
        have hV2 := hV1.below hba2
        have hB2 := hB1.trans (hba2.mono hB1.size)
        have hsz2 : (w1.alloc (.cells #[.int .i64 r.1, .int .i64 r.2.1, v] 26)).heap.size = w1.heap.size + 1 := by simp
        have hba3 : Below (w1.alloc (.cells #[.int .i64 r.1, .int .i64 r.2.1, v] 26)).heap.size (w1.alloc (.cells #[.int .i64 r.1, .int .i64 r.2.1, v] 26)) ((w1.alloc (.cells #[.int .i64 r.1, .int .i64 r.2.1, v] 26)).alloc (.cells #[.int .i64 r.1, .int .i64 r.2.1, v] 26)) := (Below.refl _ _).alloc (Nat.le_refl _) _
        have hO3 := hO2.below hba3
        have hV3 := hV2.below hba3
        have hB3 := hB2.alloc hB2.size (.cells #[.int .i64 r.1, .int .i64 r.2.1, v] 26)
        have hoc := one_rec_cells (w1.alloc (.cells #[.int .i64 r.1, .int .i64 r.2.1, v] 26)) r.1 r.2.1 v 26
        rw [hsz2] at hoc
        have HOC := Hid.mk' hoc
        have HON := Hid.mk' (one_rec_oneCell r.1 r.2.1 hV.one)
        have hsh := hV.shape
        have HOU := Hid.mk' hout
        clear hO hO1 hO2 hV hV1 hV2 hb1 HG hba2 hba3 hB1 hB2 hVlt hout hsz2 hoc
        rcases hsh with ⟨hv, _⟩ | ⟨gv, cv, hv, _⟩
        all_goals
          subst hv
          go_wp2_with (at_builtin; refine wpList_append_own _ rfl (.tmp 25) (.tmp 27) 37 rfl w.heap.size 26 i0 (.agg #[.int .i64 0, .int .i64 0, .slice none 0 0]) 3 40 Tryd.underlying37 hi hz0 hz1 hz2 rfl (by decide) _ _ _ rfl hO3.row ⟨w1.heap.size + 1, 0, none⟩ 1 1 _ rfl rfl HOC.out HON.out hc3 hc4 hB3.size ?_)
          intro v4 w4 hown4 hgrow4 hnn4
          have hnn' : ¬ v4 = .slice none 0 0 := by simpa using hnn4
          have hO4 := hO3.snoc hV3 hsr HOU.out hown4 hgrow4
          have hB4 : Below w.heap.size w w4 := hB3.grown hgrow4 hB3.size (fun j e => (hO3.row.lt j e).1)
          rcases hO4.shape with ⟨hv4, _⟩ | ⟨g4, cp4, hv4, _⟩
          · exact absurd hv4 hnn'
          · subst hv4
            have HO4 := Hid.mk' hO4
            clear hown4 hgrow4 hnn4 hnn' hO4 hO3 hB3 hV3 HOC HON HOU
            go_wp2_with (at_builtin; fail)
            go_roundw
            case rel => exact ⟨q, acc ++ [r], _, g4, cp4, rfl, rfl, hql, by simp; omega, HO4.out, hB4, HE⟩
            case measure => simp [intOf]; omega
    · have HE : Hid (R = (acc, p)) := by show _ = _; rw [HR.out, readGo_end bs p acc (by omega)]
      clear HR
      go_wp2_with (at_builtin; fail)
      go_ret2
      exact readPost_mk HE.out hO hB
end Go.Proofs.YtooiinicnkhlbaaDoor.recs

namespace Go.Proofs.YtooiinicnkhlbaaDoor.recs
open Go Go.RowKit Go.Proofs.YtooiinicnkhlbaaDoor.base Go.Proofs.YtooiinicnkhlbaaDoor.pairs Go.Proofs.YtooiinicnkhlbaaDoor.ords Go.Proofs.YtooiinicnkhlbaaDoor.putnum Go.Proofs.YtooiinicnkhlbaaDoor.puttext Go.Proofs.YtooiinicnkhlbaaDoor.getnum Go.Proofs.YtooiinicnkhlbaaDoor.gettext
set_option linter.unusedVariables false
set_option linter.unusedSimpArgs false

/-- what the two variables hold that the program's records read -/
def KR (w : World) : Prop := sha.KW w ∧ ET w
theorem KR.below {w w' : World} (h : KR w) (hb : Below w.heap.size w w') : KR w' := ⟨h.1.below hb, h.2.below hb⟩
theorem bodyAt_len {bs b : List UInt8} {at_ : Int} {q : Nat} (h : bodyAt bs at_ = some (b, q)) : b.length ≤ bs.length := by
  unfold bodyAt at h
  split at h
  · cases h
  · split at h
    · cases h
    · split at h
      · have e := (Prod.mk.inj (Option.some.inj h)).1
        rw [← e]; simp; omega
      · cases h
/-- what readRec answers -/
def RdPost (w : World) (at_ : Int) (r : Option (Rc × Nat)) (e : Ending) (w' : World) : Prop := Below w.heap.size w w' ∧
  ((r = none ∧ e = .returned (.tuple #[.agg #[.int .i64 0, .int .i64 0, .slice none 0 0], .int .i64 0, .iface 66 (.agg #[.int .i64 at_])])) ∨
    ∃ x q v, r = some (x, q) ∧ e = .returned (.tuple #[.agg #[.int .i64 x.1, .int .i64 x.2.1, v], .int .i64 ((q : Nat) : Int), .nilIface]) ∧ OwnV w' w.heap.size v x.2.2)

set_option maxRecDepth 100000 in
set_option maxHeartbeats 4000000 in
theorem i_readRec (a : Option Addr) (len cap : Nat) (at_ : Int) (bs : List UInt8) (w : World) (h : Sl w a len bs) (hcap : len ≤ cap) (hsz : len ≤ 1099511627776) (hat : (Lit.int .i64 at_).wf = true) (hK : sha.KW w) :
    Calls Tryd.prog 46 #[.slice a len cap, .int .i64 at_] w fun e w' => RdPost w at_ (getRec bs at_) e w' := by
  have hl := h.1
  obtain ⟨W, hW⟩ : ∃ W, W = w.alloc (.cells #[.int .i64 0, .int .i64 0, .slice none 0 0] 26) := ⟨_, rfl⟩
  have hB : Below w.heap.size w W := by rw [hW]; exact (Below.refl _ _).alloc (Nat.le_refl _) _
  have hR : BoxR w.heap.size 0 0 (.slice none 0 0) W := by rw [hW]; exact boxR_new w 0 0 (.slice none 0 0)
  have HW := Hid.mk' hW.symm
  have HG := Hid.mk' (i_getBody a len cap at_ bs W (h.below hB) hcap hsz hat (hK.below hB))
  have HGR := Hid.mk' (getRec_bodyAt bs at_)
  clear hW
  go_enter Tryd.func46, Tryd.ntmps46
  go_wp2_with fail
  rw [HW.out]
  refine HG.out.mono ?_
  rintro e w1 ⟨hb1, ⟨hr, pa, n1, c1, q1, rfl⟩ | ⟨body, q, g, n, cp, hr, rfl, hO1⟩⟩
  · have HF : Hid (getRec bs at_ = none) := by show _ = _; rw [HGR.out, hr]
    have hR1 := hR.below hb1
    have hB1 := hB.trans (hb1.mono hB.size)
    obtain ⟨r0, r1, r2⟩ := hR1.cells
    have f0 := hR1.fz 0
    have f1 := hR1.fz 1
    have f2 := hR1.fz 2
    obtain ⟨z, zg⟩ := boxR_set hR1 (.int .i64 0) (.int .i64 0) (.slice none 0 0)
    have hz : BoxR w.heap.size 0 0 (.slice none 0 0) _ := z
    have hzc := hz.cells
    have HBz := Hid.mk' (hB1.grown zg hB1.size (fun j e => by cases e; exact Nat.le_refl _))
    clear hr HG HGR HW
    go_wp2_with fail
    refine bodyPost_ret (v := .tuple #[.agg #[.int .i64 0, .int .i64 0, .slice none 0 0], .int .i64 0, .iface 66 (.agg #[.int .i64 at_])]) ?_ rfl ⟨HBz.out, .inl ⟨HF.out, rfl⟩⟩
    simp [results, Tryd.results46, go_sem, hzc.1, hzc.2.1, hzc.2.2]
  · have hR1 := hR.below hb1
    have hB1 := hB.trans (hb1.mono hB.size)
    have hbl : n ≤ 1099511627776 := by
      have e1 := hO1.1
      have := bodyAt_len hr
      omega
    have HOF := Hid.mk' (i_recOf g n cp body w1 hO1.sl hO1.max.1 hbl)
    have HGB : Hid (getRec bs at_ = (readBody body).map fun r => (r, q)) := by show _ = _; rw [HGR.out, hr]
    clear hr HG HGR HW hO1
    go_wp2_with fail
    refine HOF.out.mono ?_
    rintro e w2 ⟨hb2, ⟨hr2, kd, tx, pa, n2, pc, rfl⟩ | ⟨x, v, hr2, rfl, hv⟩⟩
    · have HF : Hid (getRec bs at_ = none) := by show _ = _; rw [HGB.out, hr2]; rfl
      have hba : Below w2.heap.size w2 (w2.alloc (.cells #[.int .i64 kd, .int .i64 tx, .slice pa n2 pc] 26)) := (Below.refl _ _).alloc (Nat.le_refl _) _
      have hR2 := (hR1.below hb2).below hba
      have hB2 := (hB1.trans (hb2.mono hB1.size))
      have hB3 := hB2.trans (hba.mono hB2.size)
      obtain ⟨r0, r1, r2⟩ := hR2.cells
      have f0 := hR2.fz 0
      have f1 := hR2.fz 1
      have f2 := hR2.fz 2
      obtain ⟨z, zg⟩ := boxR_set hR2 (.int .i64 0) (.int .i64 0) (.slice none 0 0)
      have hz : BoxR w.heap.size 0 0 (.slice none 0 0) _ := z
      have hzc := hz.cells
      have HBz := Hid.mk' (hB3.grown zg hB3.size (fun j e => by cases e; exact Nat.le_refl _))
      clear hr2 HOF HGB
      go_wp2_with fail
      refine bodyPost_ret (v := .tuple #[.agg #[.int .i64 0, .int .i64 0, .slice none 0 0], .int .i64 0, .iface 66 (.agg #[.int .i64 at_])]) ?_ rfl ⟨HBz.out, .inl ⟨HF.out, rfl⟩⟩
      simp [results, Tryd.results46, go_sem, hzc.1, hzc.2.1, hzc.2.2]
    · have HF : Hid (getRec bs at_ = some (x, q)) := by show _ = _; rw [HGB.out, hr2]; rfl
      obtain ⟨pa, pc, hvp, _, _⟩ := hv.sl
      subst hvp
      have hba : Below w2.heap.size w2 (w2.alloc (.cells #[.int .i64 x.1, .int .i64 x.2.1, .slice pa x.2.2.length pc] 26)) := (Below.refl _ _).alloc (Nat.le_refl _) _
      have hR2 := (hR1.below hb2).below hba
      have hB2 := (hB1.trans (hb2.mono hB1.size))
      have hB3 := hB2.trans (hba.mono hB2.size)
      have hT2 := boxR_new w2 x.1 x.2.1 (.slice pa x.2.2.length pc)
      have hvl : (Value.slice pa x.2.2.length pc).ownBlock ≠ some w.heap.size ∨ (Value.slice pa x.2.2.length pc).ownBlock = none := by
        cases hob : (Value.slice pa x.2.2.length pc).ownBlock with
        | none => exact .inr rfl
        | some k =>
          left
          have := (hv.lt k hob).1
          have := hR1.lt
          intro e; cases e; omega
      obtain ⟨t0, t1, t2⟩ := hT2.cells
      obtain ⟨r0, r1, r2⟩ := hR2.cells
      have f0 := hR2.fz 0
      have f1 := hR2.fz 1
      have f2 := hR2.fz 2
      obtain ⟨z, zg⟩ := boxR_set hR2 (.int .i64 x.1) (.int .i64 x.2.1) (.slice pa x.2.2.length pc)
      have hz : BoxR w.heap.size x.1 x.2.1 (.slice pa x.2.2.length pc) _ := z
      have hzc := hz.cells
      have HBz := Hid.mk' (hB3.grown zg hB3.size (fun j e => by cases e; exact Nat.le_refl _))
      have HOz := Hid.mk' ((((hv.below hba).mono hB1.size).grown zg (by rcases hvl with h | h; exact .inr h; exact .inl h)))
      clear hr2 HOF HGB hvl
      go_wp2_with fail
      refine bodyPost_ret (v := .tuple #[.agg #[.int .i64 x.1, .int .i64 x.2.1, .slice pa x.2.2.length pc], .int .i64 (q : Int), .nilIface]) ?_ rfl ⟨HBz.out, .inr ⟨x, q, _, HF.out, rfl, HOz.out⟩⟩
      simp [results, Tryd.results46, go_sem, hzc.1, hzc.2.1, hzc.2.2]
theorem BoxR.grownE {X Y : Nat} {kind tx : Int} {v : Value} {w w' : World} (h : BoxR X kind tx v w) (hg : w.grownBy w' (some Y)) (hne : X ≠ Y) : BoxR X kind tx v w' := h.grown hg (by intro e; exact hne (Option.some.inj e))

set_option maxRecDepth 100000 in
set_option maxHeartbeats 4000000 in
theorem impl_getRec (a : Option Addr) (len cap : Nat) (at_ : Int) (bs : List UInt8) (w : World) (h : Sl w a len bs) (hcap : len ≤ cap) (hsz : len ≤ 1099511627776) (hat : (Lit.int .i64 at_).wf = true) (hK : KR w) :
    Calls Tryd.prog 15 #[.slice a len cap, .int .i64 at_] w fun e w' => RecPost w at_ (getRec bs at_) e w' := by
  obtain ⟨W, hW⟩ : ∃ W, W = w.alloc (.cells #[.int .i64 0, .int .i64 0, .slice none 0 0] 26) := ⟨_, rfl⟩
  have hB : Below w.heap.size w W := by rw [hW]; exact (Below.refl _ _).alloc (Nat.le_refl _) _
  have hR : BoxR w.heap.size 0 0 (.slice none 0 0) W := by rw [hW]; exact boxR_new w 0 0 (.slice none 0 0)
  have HW := Hid.mk' hW.symm
  have HG := Hid.mk' (i_readRec a len cap at_ bs W (h.below hB) hcap hsz hat (hK.1.below hB))
  have HE := Hid.mk' (hK.2.below hB)
  clear hW hK
  go_enter Tryd.func15, Tryd.ntmps15
  go_wp2_with fail
  rw [HW.out]
  refine HG.out.mono ?_
  rintro e w1 ⟨hb1, ⟨hr, rfl⟩ | ⟨x, q, v, hr, rfl, hv⟩⟩
  · have HF := Hid.mk' hr
    have hB1 := hB.trans (hb1.mono hB.size)
    have hba : Below w1.heap.size w1 (w1.alloc (.cells #[.int .i64 0, .int .i64 0, .slice none 0 0] 26)) := (Below.refl _ _).alloc (Nat.le_refl _) _
    have hs1 : (w1.alloc (.cells #[.int .i64 0, .int .i64 0, .slice none 0 0] 26)).heap.size = w1.heap.size + 1 := by simp
    have hbb := (Below.refl _ (w1.alloc (.cells #[.int .i64 0, .int .i64 0, .slice none 0 0] 26))).alloc (Nat.le_refl _) (.cells #[.int .i64 0] 66)
    have hX := boxE_new (w1.alloc (.cells #[.int .i64 0, .int .i64 0, .slice none 0 0] 26)) 0
    rw [hs1] at hX
    have hR2 := ((hR.below hb1).below hba).below hbb
    have hB2 := (hB1.trans (hba.mono hB1.size))
    have hB3 := hB2.trans (hbb.mono hB2.size)
    have hE3 := ((HE.out.below hb1).below hba).below hbb
    have hlt := hR.lt
    have hle := hb1.size
    have HAS := Hid.mk' (as_hit at_ 0 (w1.heap.size + 1) _ hE3 hX)
    clear hr HG HW hs1 hX hba hbb hB2
    go_wp2_with fail
    refine HAS.out.mono ?_
    rintro e w4 ⟨rfl, hX4, hg4⟩
    have hR4 := hR2.grownE hg4 (by omega)
    have hB4 := hB3.grown hg4 hB3.size (fun j e => by cases e; omega)
    have c4 := hX4.cell
    obtain ⟨r0, r1, r2⟩ := hR4.cells
    have f0 := hR4.fz 0
    have f1 := hR4.fz 1
    have f2 := hR4.fz 2
    have hne : ¬ w1.heap.size + 1 = w.heap.size := by omega
    obtain ⟨z, zg⟩ := boxR_set hR4 (.int .i64 0) (.int .i64 0) (.slice none 0 0)
    have hz : BoxR w.heap.size 0 0 (.slice none 0 0) _ := z
    have hzc := hz.cells
    have HBz := Hid.mk' (hB4.grown zg hB4.size (fun j e => by cases e; exact Nat.le_refl _))
    clear HAS hg4 hR2 hB3 hE3
    go_wp2_with fail
    go_region
    all_goals
      go_wp2_with fail
      refine bodyPost_ret (v := .tuple #[.agg #[.int .i64 0, .int .i64 0, .slice none 0 0], .int .i64 at_, .bool false]) ?_ rfl (recPost_none HF.out HBz.out.drew)
      simp [results, Tryd.results15, go_sem, hzc.1, hzc.2.1, hzc.2.2]
  · have HF := Hid.mk' hr
    obtain ⟨pa, pc, hvp, _, _⟩ := hv.sl
    subst hvp
    have hB1 := hB.trans (hb1.mono hB.size)
    have hba : Below w1.heap.size w1 (w1.alloc (.cells #[.int .i64 x.1, .int .i64 x.2.1, .slice pa x.2.2.length pc] 26)) := (Below.refl _ _).alloc (Nat.le_refl _) _
    have hT := boxR_new w1 x.1 x.2.1 (.slice pa x.2.2.length pc)
    have hbb := (Below.refl _ (w1.alloc (.cells #[.int .i64 x.1, .int .i64 x.2.1, .slice pa x.2.2.length pc] 26))).alloc (Nat.le_refl _) (.cells #[.int .i64 0] 66)
    have hR2 := ((hR.below hb1).below hba).below hbb
    have hT2 := hT.below hbb
    have hv2 := ((hv.below hba).below hbb)
    have hB2 := (hB1.trans (hba.mono hB1.size))
    have hB3 := hB2.trans (hbb.mono hB2.size)
    have hvl : (Value.slice pa x.2.2.length pc).ownBlock ≠ some w.heap.size ∨ (Value.slice pa x.2.2.length pc).ownBlock = none := by
      cases hob : (Value.slice pa x.2.2.length pc).ownBlock with
      | none => exact .inr rfl
      | some k =>
        left
        have := (hv.lt k hob).1
        have := hR.lt
        intro e; cases e; omega
    obtain ⟨t0, t1, t2⟩ := hT2.cells
    obtain ⟨r0, r1, r2⟩ := hR2.cells
    have f0 := hR2.fz 0
    have f1 := hR2.fz 1
    have f2 := hR2.fz 2
    obtain ⟨z, zg⟩ := boxR_set hR2 (.int .i64 x.1) (.int .i64 x.2.1) (.slice pa x.2.2.length pc)
    have hz : BoxR w.heap.size x.1 x.2.1 (.slice pa x.2.2.length pc) _ := z
    have hzc := hz.cells
    have HBz := Hid.mk' (hB3.grown zg hB3.size (fun j e => by cases e; exact Nat.le_refl _))
    have HOz := Hid.mk' (((hv2.mono hB.size).grown zg (by rcases hvl with h | h; exact .inr h; exact .inl h)))
    clear hr HG HW hvl hv hv2 hT hba hbb HE
    go_wp2_with fail
    refine (as_nil _ _).mono ?_
    rintro e w4 ⟨rfl, hw4⟩
    subst hw4
    go_wp2_with fail
    refine bodyPost_ret (v := .tuple #[.agg #[.int .i64 x.1, .int .i64 x.2.1, .slice pa x.2.2.length pc], .int .i64 (q : Int), .bool true]) ?_ rfl (recPost_some HF.out rfl HOz.out HBz.out)
    simp [results, Tryd.results15, go_sem, hzc.1, hzc.2.1, hzc.2.2]
theorem getRec_end (bs : List UInt8) (p : Nat) (hp : bs.length ≤ p) : getRec bs (p : Int) = none := by
  refine getRec_no1 ?_
  unfold getNum
  rw [if_neg (by omega), Int.toNat_natCast, getGo_end bs p 0 0 hp]

set_option maxRecDepth 100000 in
set_option maxHeartbeats 4000000 in
theorem impl_readRecs (a : Option Addr) (len cap : Nat) (bs : List UInt8) (w : World) (h : Sl w a len bs) (hcap : len ≤ cap) (hsz : len ≤ 1099511627776) (hK : KR w) :
    Calls Tryd.prog 22 #[.slice a len cap] w fun e w' => ReadPost w (readRecs bs) e w' := by
  obtain ⟨i0, hi, hz0, hz1, hz2⟩ := info_parts infoR
  have hl := h.1
  have hba : Below w.heap.size w (w.alloc (.cells #[] 26)) := (Below.refl _ _).alloc (Nat.le_refl _) _
  have hOm := ownR_made w w.heap.size (Nat.le_refl _)
  have HR0 : Hid (readRecs bs = readGo bs (bs.length + 1 - 0) 0 []) := rfl
  generalize readRecs bs = R at *
  go_enter Tryd.func22, Tryd.ntmps22
  go_wp2_with (at_builtin; fail)
  go_loopw [4, 5] (fun ov pv wr => ∃ (p : Nat) (acc : List Rc) (hs : List Value) (g cp : Nat), ov = .slice (some ⟨g, 0, none⟩) acc.length cp ∧ pv = .int .i64 (p : Int) ∧ p ≤ len ∧ acc.length ≤ p ∧ OwnR wr w.heap.size (.slice (some ⟨g, 0, none⟩) acc.length cp) acc hs ∧ Below w.heap.size w wr ∧ Hid (R = readGo bs (bs.length + 1 - p) p acc)) (fun _ pv _ => len - (intOf pv).toNat)
  case atStart => exact ⟨0, [], [], w.heap.size, 0, rfl, rfl, Nat.zero_le _, Nat.le_refl _, hOm, hba, HR0⟩
  case round =>
    clear HR0 hOm hba
    obtain ⟨p, acc, hs, g, cp, rfl, rfl, hp, hap, hO, hB, HR⟩ := hrel
    have hbw := hB.size
    have HG := Hid.mk' (i_readRec a len cap (p : Int) bs wr (h.below hB) hcap hsz (WalkArith.wf_i64 (by omega)) (hK.1.below hB))
    have HEr := Hid.mk' (hK.2.below hB)
    go_wp2_with (at_builtin; fail)
    refine HG.out.mono ?_
    rintro e w1 ⟨hb1, ⟨hr, rfl⟩ | ⟨r, q, v, hr, rfl, hV⟩⟩
    · have HE : Hid (R = (acc, p)) := by
        show _ = _
        rw [HR.out]
        by_cases hlt : p < len
        · rw [readGo_step bs p acc (by omega), hr]
        · exact readGo_end bs p acc (by omega)
      have hO1 := hO.below hb1
      have hB1 := hB.trans (hb1.mono hbw)
      have hba : Below w1.heap.size w1 (w1.alloc (.cells #[.int .i64 0, .int .i64 0, .slice none 0 0] 26)) := (Below.refl _ _).alloc (Nat.le_refl _) _
      have hs1 : (w1.alloc (.cells #[.int .i64 0, .int .i64 0, .slice none 0 0] 26)).heap.size = w1.heap.size + 1 := by simp
      have hbb := (Below.refl _ (w1.alloc (.cells #[.int .i64 0, .int .i64 0, .slice none 0 0] 26))).alloc (Nat.le_refl _) (.cells #[.int .i64 0] 66)
      have hX := boxE_new (w1.alloc (.cells #[.int .i64 0, .int .i64 0, .slice none 0 0] 26)) 0
      rw [hs1] at hX
      have hB2 := (hB1.trans (hba.mono hB1.size))
      have hB3 := hB2.trans (hbb.mono hB2.size)
      have hE3 := ((HEr.out.below hb1).below hba).below hbb
      have hO3 := (hO1.below hba).below hbb
      have hout : ¬ BlkR (.slice (some ⟨g, 0, none⟩) acc.length cp) hs (w1.heap.size + 1) := fun hb => by have := (hO1.lt _ hb).2; omega
      have HOU := Hid.mk' hout
      have hle := hB1.size
      have HAS := Hid.mk' (as_hit (p : Int) 0 (w1.heap.size + 1) _ hE3 hX)
      clear hr HG HR hs1 hX hba hbb hB2 hO hO1 hout HEr
      go_wp2_with (at_builtin; fail)
      refine HAS.out.mono ?_
      rintro e w4 ⟨rfl, hX4, hg4⟩
      have hO4 := hO3.grown hg4 HOU.out
      have hB4 := hB3.grown hg4 hB3.size (fun j e => by cases e; omega)
      have c4 := hX4.cell
      clear HAS hg4 hO3 hB3 hE3 HOU
      go_wp2_with (at_builtin; fail)
      go_region
      all_goals
        go_wp2_with (at_builtin; fail)
        go_ret2
        exact readPost_mk HE.out (hO4.below ((Below.refl _ _).drew)) hB4.drew
    · have hlt : p < len := by
        rcases Nat.lt_or_ge p len with h1 | h1
        · exact h1
        · rw [getRec_end bs p (by omega)] at hr; cases hr
      have hst := readGo_step bs p acc (by omega)
      have hga := getRec_at hr
      simp only [Int.toNat_natCast] at hga
      rw [hr] at hst
      have HE : Hid (R = readGo bs (bs.length + 1 - q) q (acc ++ [r])) := by show _ = _; rw [HR.out, hst]
      have hsr := recOk_small hga.2.1
      have hql : q ≤ len := by omega
      have hpq : p < q := hga.2.2.1
      clear hr hst HR hga HG HEr
      have hc3 : acc.length + 1 ≤ maxLen := by unfold maxLen; omega
      have hc4 : (acc.length + 1) * 40 ≤ 140737488355328 := by omega
      obtain ⟨pa, pc, hvp, _, _⟩ := hV.sl
      have hVlt : ∀ k, v.ownBlock = some k → wr.heap.size ≤ k := fun k hk => (hV.lt k hk).1
      have hout : ∀ k, v.ownBlock = some k → ¬ BlkR (.slice (some ⟨g, 0, none⟩) acc.length cp) hs k := fun k hk hb => by have h1 := hVlt k hk; have h2 := (hO.lt k hb).2; omega
      have HOU := Hid.mk' hout
      have HON := Hid.mk' (one_rec_oneCell r.1 r.2.1 hV.one)
      subst hvp
      have hO1 := hO.below hb1
      have hB1 := hB.trans (hb1.mono hbw)
      have hV1 := (hV.mono (base' := w.heap.size) hbw)
      have hba : Below w1.heap.size w1 (w1.alloc (.cells #[.int .i64 r.1, .int .i64 r.2.1, .slice pa r.2.2.length pc] 26)) := (Below.refl _ _).alloc (Nat.le_refl _) _
      have hT := boxR_new w1 r.1 r.2.1 (.slice pa r.2.2.length pc)
      have hbb := (Below.refl _ (w1.alloc (.cells #[.int .i64 r.1, .int .i64 r.2.1, .slice pa r.2.2.length pc] 26))).alloc (Nat.le_refl _) (.cells #[.int .i64 0] 66)
      have hT2 := hT.below hbb
      have hO2 := (hO1.below hba).below hbb
      have hV2 := (hV1.below hba).below hbb
      have hB2a := (hB1.trans (hba.mono hB1.size))
      have hB2 := hB2a.trans (hbb.mono hB2a.size)
      obtain ⟨W2, hW2⟩ : ∃ W2, W2 = (w1.alloc (.cells #[.int .i64 r.1, .int .i64 r.2.1, .slice pa r.2.2.length pc] 26)).alloc (.cells #[.int .i64 0] 66) := ⟨_, rfl⟩
      rw [← hW2] at hT2 hO2 hV2 hB2
      have HW2 := Hid.mk' hW2.symm
      have hba3 : Below W2.heap.size W2 (W2.alloc (.cells #[.int .i64 r.1, .int .i64 r.2.1, .slice pa r.2.2.length pc] 26)) := (Below.refl _ _).alloc (Nat.le_refl _) _
      have hO3 := hO2.below hba3
      have hV3 := hV2.below hba3
      have hB3 := hB2.alloc hB2.size (.cells #[.int .i64 r.1, .int .i64 r.2.1, .slice pa r.2.2.length pc] 26)
      have HOC := Hid.mk' (one_rec_cells W2 r.1 r.2.1 (.slice pa r.2.2.length pc) 26)
      obtain ⟨t0, t1, t2⟩ := hT2.cells
      clear hO hO1 hO2 hV hV1 hV2 hb1 hba hbb hba3 hB1 hB2a hVlt hout hT hW2
      go_wp2_with (at_builtin; fail)
      rw [HW2.out]
      refine (as_nil _ _).mono ?_
      rintro e w4 ⟨rfl, hw4⟩
      subst hw4
      go_wp2_with (at_builtin; refine wpList_append_own _ rfl (.tmp 24) (.tmp 26) 37 rfl w.heap.size 26 i0 (.agg #[.int .i64 0, .int .i64 0, .slice none 0 0]) 3 40 Tryd.underlying37 hi hz0 hz1 hz2 rfl (by decide) _ _ _ rfl hO3.row ⟨w4.heap.size, 0, none⟩ 1 1 _ rfl rfl HOC.out HON.out hc3 hc4 hB3.size ?_)
      intro v5 w5 hown5 hgrow5 hnn5
      have hnn' : ¬ v5 = .slice none 0 0 := by simpa using hnn5
      have hO5 := hO3.snoc hV3 hsr HOU.out hown5 hgrow5
      have hB5 : Below w.heap.size w w5 := hB3.grown hgrow5 hB3.size (fun j e => (hO3.row.lt j e).1)
      rcases hO5.shape with ⟨hv5, _⟩ | ⟨g5, cp5, hv5, _⟩
      · exact absurd hv5 hnn'
      · subst hv5
        have HO5 := Hid.mk' hO5
        clear hown5 hgrow5 hnn5 hnn' hO5 hO3 hB3 hV3 HOC HON HOU t0 t1 t2
        go_wp2_with (at_builtin; fail)
        go_roundw
        case rel => exact ⟨q, acc ++ [r], _, g5, cp5, rfl, rfl, hql, by simp; omega, HO5.out, hB5, HE⟩
        case measure => simp [intOf]; omega
end Go.Proofs.YtooiinicnkhlbaaDoor.recs

namespace Go.Proofs.YtooiinicnkhlbaaDoor.recs
open Go Go.RowKit Go.Proofs.YtooiinicnkhlbaaDoor.base Go.Proofs.YtooiinicnkhlbaaDoor.pairs Go.Proofs.YtooiinicnkhlbaaDoor.ords Go.Proofs.YtooiinicnkhlbaaDoor.helps
set_option linter.unusedVariables false

theorem resR_len (bs : List UInt8) (p : Int) : (resR (getRec bs p)).2.2.length ≤ 8 := by
  cases h : getRec bs p with
  | none => simp [resR]
  | some x =>
    obtain ⟨r, q⟩ := x
    obtain ⟨_, h1, _⟩ := getRec_at h
    show r.2.2.length ≤ 8
    rcases ((recOk_iff r).1 h1).2 with ⟨_, h2⟩ | ⟨_, h2⟩
    · exact ((opsOk_iff _).1 h2).2.2
    · rw [h2]; simp
theorem ownV_slo {w : World} {base : Nat} {a : Option Addr} {n cap : Nat} {l : List Od} (h : OwnV w base (.slice a n cap) l) : SlO w a n l := by
  obtain ⟨a', c', e, hs, _⟩ := h.sl
  cases e; exact hs
theorem recPost_open {w w' : World} {p : Int} {r : Option (Rc × Nat)} {e : Ending} {k t q : Int} {L : List Od} {ok : Bool} (hR : resR r = (k, t, L)) (hq : resQ p r = q) (hok : r.isSome = ok) (h : RecPost w p r e w') :
    ∃ a n cap, e = .returned (.tuple #[.agg #[.int .i64 k, .int .i64 t, .slice a n cap], .int .i64 q, .bool ok]) ∧ OwnV w' w.heap.size (.slice a n cap) L ∧ Below w.heap.size w w' := by
  obtain ⟨v, rfl, hv, hb⟩ := h
  rw [hR] at hv
  obtain ⟨a, c, rfl, _, _⟩ := hv.sl
  exact ⟨a, _, c, by rw [hR, hq, hok], hv, hb⟩
structure PentG (w0 w : World) (kind tx : Int) (vs vg : Value) (bw gx len bg : Nat) (X : List UInt8) (S G : List Od) : Prop where
  bel : Below w0.heap.size w0 w
  x : Own w w0.heap.size gx len len X
  s : OwnV w w0.heap.size vs S
  g : OwnV w w0.heap.size vg G
  us : V3 w bw 26 (.int .i64 kind) (.int .i64 tx) vs
  ug : V3 w bg 26 (.int .i64 kind) (.int .i64 tx) vg
  hs : ∀ k, vs.ownBlock = some k → k < bw
  hw : bw < gx
  hg : ∀ k, vg.ownBlock = some k → gx < k ∧ k < bg
  hx : gx < bg
section
variable {w0 w w' : World} {kind tx : Int} {vs vg : Value} {bw gx len bg : Nat} {X : List UInt8} {S G : List Od}
theorem PentG.below (h : PentG w0 w kind tx vs vg bw gx len bg X S G) (hb : Below w.heap.size w w') : PentG w0 w' kind tx vs vg bw gx len bg X S G :=
  ⟨h.bel.trans (hb.mono h.bel.size), h.x.below hb, h.s.below hb, h.g.below hb, h.us.below hb, h.ug.below hb, h.hs, h.hw, h.hg, h.hx⟩
theorem PentG.markX (h : PentG w0 w kind tx vs vg bw gx len bg X S G) {X' : List UInt8} (ho : Own w' w0.heap.size gx len len X') (hg : w.grownBy w' (some gx)) : PentG w0 w' kind tx vs vg bw gx len bg X' S G :=
  ⟨h.bel.grown hg h.bel.size (fun k e => by cases e; exact h.x.lt.1), ho,
    h.s.grown hg (.inr fun e => by have := h.hs gx e; have := h.hw; omega),
    h.g.grown hg (.inr fun e => by have := h.hg gx e; omega),
    (hg.block _ h.us.lt (by have := h.hw; simp; omega)).trans h.us, (hg.block _ h.ug.lt (by have := h.hx; simp; omega)).trans h.ug, h.hs, h.hw, h.hg, h.hx⟩
theorem PentG.markG (h : PentG w0 w kind tx vs vg bw gx len bg X S G) {G' : List Od} (ho : OwnV w' w0.heap.size vg G') (hg : w.grownBy w' vg.ownBlock) : PentG w0 w' kind tx vs vg bw gx len bg X S G' := by
  have hne : ∀ b, (b ≤ gx ∨ bg ≤ b) → some b ≠ vg.ownBlock := fun b hb e => by have := h.hg b e.symm; omega
  have h1 := h.hw
  have h2 := h.hx
  refine ⟨h.bel.grown hg h.bel.size (fun k e => (h.g.lt k e).1), h.x.grown hg (hne gx (by omega)), ?_, ho, (hg.block _ h.us.lt (hne _ (by omega))).trans h.us, (hg.block _ h.ug.lt (hne _ (by omega))).trans h.ug, h.hs, h.hw, h.hg, h.hx⟩
  cases hv : vs.ownBlock with
  | none => exact h.s.grown hg (.inl hv)
  | some k => exact h.s.grown hg (.inr (by rw [hv]; exact hne k (by have := h.hs k hv; omega)))
theorem PentG.cells (h : PentG w0 w kind tx vs vg bw gx len bg X S G) :
    w.cell? ⟨bg, 0, none⟩ = some (.int .i64 kind) ∧ w.cell? ⟨bg, 1, none⟩ = some (.int .i64 tx) ∧ w.cell? ⟨bg, 2, none⟩ = some vg ∧ w.cell? ⟨bw, 0, none⟩ = some (.int .i64 kind) ∧ w.cell? ⟨bw, 1, none⟩ = some (.int .i64 tx) ∧ w.cell? ⟨bw, 2, none⟩ = some vs :=
  ⟨h.ug.c0, h.ug.c1, h.ug.c2, h.us.c0, h.us.c1, h.us.c2⟩
end
end Go.Proofs.YtooiinicnkhlbaaDoor.recs

namespace Go.Proofs.YtooiinicnkhlbaaDoor.doorE
open Go.ChangeShapes Go.WideShapes Go.ChangeAt Go.RowKit
open Go.ChangeMaps (open_string shut_string)
set_option linter.unusedVariables false
open Go.Proofs.YtooiinicnkhlbaaDoor.base

abbrev laidE : List (String × DataW Unit) := [("errors.errorType", Rows.laid_errors_errorType), ("loop.example/g00244/impl.roundWords", Rows.laid_loop_example_g00244_impl_roundWords)]
theorem et : Tryd.prog.globalNamed "errors.errorType" = some 0 := by kernel_rfl
theorem rt : (Tryd.prog.cutTypes.find? (·.1 == "internal/reflectlite.rtype")).map (·.2) = some 130 := by kernel_rfl
theorem oneRow : ((List.range 185).filter fun t => Tryd.prog.rowNamed t [101, 114, 114, 111, 114]) = [62] := by kernel_rfl
theorem size : Tryd.prog.types.size = 185 := by kernel_rfl
theorem known_of_laid {W : World} (h : laidMetH Tryd.prog laidE W) : sha.KW W ∧ recs.ET W := by
  have h' : laidMet Tryd.prog door.laidD W ∧ handlesMet Tryd.prog [("errors.errorType", Rows.laid_errors_errorType)] W := h
  refine ⟨door.words_of_laid (by rw [MakeChecks.laidMetH_plain _ _ _ (by kernel_rfl)]; exact h'.1), ?_⟩
  obtain ⟨name, u, ty, e1, e2, e3, e4, e5⟩ := h'.2 _ (List.mem_singleton.2 rfl)
  have en : name = [101, 114, 114, 111, 114] := (Option.some.inj e1).symm
  subst en
  obtain rfl := Option.some.inj (rt.symm.trans e2)
  have hm : ty ∈ (List.range 185).filter fun t => Tryd.prog.rowNamed t [101, 114, 114, 111, 114] := List.mem_filter.2 ⟨List.mem_range.2 (by rw [← size]; exact e3), e4⟩
  rw [oneRow] at hm
  obtain rfl := List.mem_singleton.1 hm
  have hh : typeHandle Tryd.prog 62 = .pointer (some ⟨2, 62, none⟩) := by kernel_rfl
  rw [hh] at e5
  show W.cell? _ = _
  simpa using World.var?_cell et e5 0
/-- a world in which both variables are laid -/
theorem laidW_os (os : Os) : (({ World.holding Tryd.prog os ⟨#[], #[], []⟩ with heap := (World.holding Tryd.prog os ⟨#[], #[], []⟩).heap.setIfInBounds 0 (.cells #[.iface 130 (.agg #[.pointer (some ⟨2, 62, none⟩)])] 98 (0, 0)) } : World).layVars Tryd.prog door.laidD).os = os := (World.layVars_os _ _ _).trans rfl
theorem laidW_met (os : Os) (args : Array Value) : laidMetH Tryd.prog laidE ((({ World.holding Tryd.prog os ⟨#[], #[], []⟩ with heap := (World.holding Tryd.prog os ⟨#[], #[], []⟩).heap.setIfInBounds 0 (.cells #[.iface 130 (.agg #[.pointer (some ⟨2, 62, none⟩)])] 98 (0, 0)) } : World).layVars Tryd.prog door.laidD).forCall (fun _ _ => 0) ⟨#[], args, []⟩).memory := by
  refine laidMetH_of_parts ?_ (by kernel_rfl)
  have h : laidMet Tryd.prog door.laidD (({ World.holding Tryd.prog os ⟨#[], #[], []⟩ with heap := (World.holding Tryd.prog os ⟨#[], #[], []⟩).heap.setIfInBounds 0 (.cells #[.iface 130 (.agg #[.pointer (some ⟨2, 62, none⟩)])] 98 (0, 0)) } : World).layVars Tryd.prog door.laidD) := laidMet_layVars (w0 := ({ World.holding Tryd.prog os ⟨#[], #[], []⟩ with heap := (World.holding Tryd.prog os ⟨#[], #[], []⟩).heap.setIfInBounds 0 (.cells #[.iface 130 (.agg #[.pointer (some ⟨2, 62, none⟩)])] 98 (0, 0)) } : World)) ["loop.example/g00244/impl.roundWords"] [] rfl (by kernel_rfl) (by kernel_rfl) LaidIn.none
  exact h.of_heap (by simp [World.memory, World.forCall, Input.heap])
end Go.Proofs.YtooiinicnkhlbaaDoor.doorE
