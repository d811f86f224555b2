/- The specification's replay: where a transaction is held, and whether a key is. The specification's replay: whether a key of orders is one of what is held. A region that draws its order: what is held from one operation to the next may fall with the last one, which waits for all the others. No function of the program is named here. A call inside a region that draws its order, as a law of one step. No function of the program is named here. The specification's replay: its state on the heap. The specification's replay: one record more. The specification's replay: one record more, that is not held. -/
import Derived.Test.YtooiinicnkhlbaaRecS
import Derived.Test.YtooiinicnkhlbaaLast
import Derived.BigQuiet
import Derived.Deep.RegionHeld
import Derived.Deep.RegionLaw
import Derived.WalkKit
import Derived.WalkSpells
import Derived.WalkLawsBesides
import Derived.Test.YtooiinicnkhlbaaBnrb
import Derived.Test.YtooiinicnkhlbaaOrdV
import Derived.Test.YtooiinicnkhlbaaOrdX
namespace Go.Proofs.Ytooiinicnkhlbaa.recs
open Go Go.RowKit Go.Proofs.Ytooiinicnkhlbaa.base Go.Proofs.Ytooiinicnkhlbaa.pairs Go.Proofs.Ytooiinicnkhlbaa.ords
set_option linter.unusedVariables false
set_option linter.unusedSimpArgs false

theorem placeTx_hit {tx : Int} : ∀ {l : List Rc} {k : Nat} (h : k < l.length), (∀ r ∈ l.take k, r.2.1 ≠ tx) → l[k].2.1 = tx → placeTx tx l = some k
  | r :: l, 0, _, _, e => by rw [placeTx, if_pos (by simpa using e)]
  | r :: l, k + 1, h, hn, e => by
    rw [placeTx, if_neg (hn r (by simp)), placeTx_hit (k := k) (by simpa using h) (fun x hx => hn x (by simp [hx])) (by simpa using e)]
    rfl
theorem placeTx_miss {tx : Int} : ∀ {l : List Rc}, (∀ r ∈ l, r.2.1 ≠ tx) → placeTx tx l = none
  | [], _ => rfl
  | r :: l, hn => by rw [placeTx, if_neg (hn r (by simp)), placeTx_miss (fun x hx => hn x (by simp [hx]))]; rfl
def atRet (r : Option Nat) : Int := match r with | none => -1 | some k => (k : Int)

set_option maxRecDepth 100000 in
set_option maxHeartbeats 2000000 in
theorem spec_l8At (a : Option Addr) (len cap : Nat) (l : List Rc) (tx : Int) (w : World) (h : SlR w a len l) :
    Calls Try.prog 62 #[.slice a len cap, .int .i64 tx] w fun e w' => e = .returned (.int .i64 (atRet (placeTx tx l))) ∧ w' = w := by
  obtain ⟨hl, hm, hsm, hc⟩ := id h
  subst hl
  unfold maxLen at hm
  generalize hR : placeTx tx l = R
  have HR := Hid.mk' hR
  clear hR
  go_enter Try.func62, Try.ntmps62
  go_wp2_with fail
  go_loopw [5] (fun i wr => ∃ k : Nat, k ≤ l.length ∧ i = .int .i64 (k : Int) ∧ (∀ r ∈ l.take k, r.2.1 ≠ tx) ∧ wr = w) (fun i _ => l.length - (intOf i).toNat)
  case atStart => exact ⟨0, Nat.zero_le _, rfl, by simp, rfl⟩
  case round =>
    obtain ⟨k, hk, rfl, hno, rfl⟩ := hrel
    by_cases hlt : k < l.length
    · obtain ⟨b, off, ha, _⟩ := hc (by omega)
      subst ha
      obtain ⟨c0, c1, pa, pl, pc, c2, _, _⟩ := h.at k hlt
      have hki : (k : Int) < (l.length : Int) := by omega
      by_cases e : l[k].2.1 = tx
      · have HP : Hid (R = some k) := by show _ = _; rw [← HR.out]; exact placeTx_hit hlt hno e
        have eb : (l[k].2.1 == tx) = true := by simpa using e
        clear hno HR e
        generalize l[k] = p at *
        go_wp2_with fail
        go_ret
        rw [HP.out]
        exact ⟨rfl, rfl⟩
      · have eb : (l[k].2.1 == tx) = false := beq_eq_false_iff_ne.2 e
        have HN : Hid (∀ r ∈ l.take (k + 1), r.2.1 ≠ tx) := by
          intro r hr
          rw [List.take_succ_eq_append_getElem hlt] at hr
          rcases List.mem_append.1 hr with e2 | e2
          · exact hno r e2
          · rw [List.mem_singleton.1 e2]; exact e
        clear hno e
        generalize l[k] = p at *
        go_wp2_with fail
        go_roundw
        case rel => exact ⟨k + 1, by omega, by go_num, HN.out, by trivial⟩
        case measure => simp [intOf]; omega
    · have HP : Hid (R = none) := by
        show _ = _
        rw [← HR.out]
        rw [List.take_of_length_le (by omega)] at hno
        exact placeTx_miss hno
      go_wp2_with fail
      go_ret
      rw [HP.out]
      exact ⟨rfl, rfl⟩
theorem append_nothing (w : World) (g c : Nat) (ty : TypeId) : (Builtin.append_ #[30, 30] ty #[.slice (some ⟨g, 0, none⟩) 0 0, .slice none 0 c]).run Try.prog w = .ok (.slice (some ⟨g, 0, none⟩) 0 0) w := by kernel_rfl

set_option maxRecDepth 100000 in
set_option maxHeartbeats 2000000 in
theorem spec_copyOps (a : Option Addr) (len cap : Nat) (l : List Od) (w : World) (h : SlO w a len l) (hsz : len ≤ 1099511627776) :
    Calls Try.prog 78 #[.slice a len cap] w fun e w' => ∃ g' cp', e = .returned (.slice (some ⟨g', 0, none⟩) len cp') ∧ OwnO w' w.heap.size g' len cp' l ∧ Below w.heap.size w w' := by
  obtain ⟨i0, hi, hz0, hz1, hz2⟩ := info_parts infoO
  have hl := h.1
  have hsm := h.2.2.1
  have hba : Below w.heap.size w (w.alloc (.cells #[] 95)) := (Below.refl _ _).alloc (Nat.le_refl _) _
  have hOm := ownO_made w w.heap.size (Nat.le_refl _)
  cases a with
  | none =>
    have h0 : len = 0 := by
      rcases Nat.eq_zero_or_pos len with e | e
      · exact e
      · obtain ⟨b, off, ha, _⟩ := h.2.2.2 e; cases ha
    subst h0
    have e1 : l = [] := List.eq_nil_of_length_eq_zero hl
    subst e1
    have han := append_nothing
    go_enter Try.func78, Try.ntmps78
    go_wp2_with fail
    go_ret
    exact ⟨_, _, rfl, hOm, hba⟩
  | some ad =>
    have hcell : Hid (∀ j u, (ordVals l)[j]? = some u → (w.alloc (.cells #[] 95)).cell? (ad.add j) = some u) := by
      rcases Nat.eq_zero_or_pos len with e | e
      · intro j u hj
        have e1 : l = [] := List.eq_nil_of_length_eq_zero (by omega)
        rw [e1] at hj; simp [ordVals] at hj
      · obtain ⟨b, off, ha, _⟩ := h.2.2.2 e
        cases ha
        exact cells_ords (h.below hba).cells
    have hc3 : 0 + len ≤ maxLen := by unfold maxLen; omega
    have hc4 : (0 + len) * 40 ≤ 140737488355328 := by omega
    have hl2 : (ordVals l).length = len * 3 := by rw [ordVals_length]; omega
    go_enter Try.func78, Try.ntmps78
    go_wp2_with (at_builtin; refine wpList_append_own _ rfl (.tmp 3) (.tmp 4) 30 rfl w.heap.size 95 i0 (.agg #[.int .i64 0, .string ⟨#[]⟩, .string ⟨#[]⟩]) 3 40 Try.underlying30 hi hz0 hz1 hz2 rfl (by decide) _ _ _ rfl hOm.2.2 ad len cap (ordVals l) rfl hl2 hcell.out (ordVals_oneCell l) hc3 hc4 hba.size ?_)
    intro v1 w1 hown hgrow hnn
    have hnn' : ¬ v1 = .slice none 0 0 := by simpa using hnn
    obtain ⟨g1, c1, hv1, hO1⟩ := ownO_val hl hsm hnn' (by have h9 := hown; rwa [show ordVals [] ++ ordVals l = ordVals l from rfl] at h9)
    subst hv1
    have hgr : (w.alloc (.cells #[] 95)).grownBy w1 (some w.heap.size) := hgrow
    have hB1 := hba.grown hgr hba.size (fun k e => by cases e; exact Nat.le_refl _)
    clear hown hgrow hnn hnn' hgr
    go_wp2_with fail
    go_ret
    exact ⟨g1, c1, rfl, hO1, hB1⟩
set_option maxRecDepth 100000 in
set_option maxHeartbeats 2000000 in
theorem spec_copyRec (kind tx : Int) (a : Option Addr) (len cap : Nat) (l : List Od) (w : World) (h : SlO w a len l) (hsz : len ≤ 1099511627776) :
    Calls Try.prog 54 #[.agg #[.int .i64 kind, .int .i64 tx, .slice a len cap]] w fun e w' =>
      ∃ g cp, e = .returned (.agg #[.int .i64 kind, .int .i64 tx, .slice (some ⟨g, 0, none⟩) len cp]) ∧ OwnO w' w.heap.size g len cp l ∧ Below w.heap.size w w' := by
  obtain ⟨W, hW⟩ : ∃ W, W = (w.alloc (.cells #[.int .i64 kind, .int .i64 tx, .slice a len cap] 32)).alloc (.cells #[.int .i64 0, .int .i64 0, .slice none 0 0] 32) := ⟨_, rfl⟩
  have hba : Below w.heap.size w (w.alloc (.cells #[.int .i64 kind, .int .i64 tx, .slice a len cap] 32)) := (Below.refl _ _).alloc (Nat.le_refl _) _
  have hB : Below w.heap.size w W := by rw [hW]; exact hba.alloc hba.size _
  have hT : BoxR w.heap.size kind tx (.slice a len cap) W := by rw [hW]; exact (boxR_new w _ _ _).below ((Below.refl _ _).alloc (Nat.le_refl _) _)
  have hR : BoxR (w.heap.size + 1) 0 0 (.slice none 0 0) W := by
    rw [hW]
    have := boxR_new (w.alloc (.cells #[.int .i64 kind, .int .i64 tx, .slice a len cap] 32)) 0 0 (.slice none 0 0)
    rwa [show (w.alloc (.cells #[.int .i64 kind, .int .i64 tx, .slice a len cap] 32)).heap.size = w.heap.size + 1 by simp] at this
  have HC := Hid.mk' (spec_copyOps a len cap l W (h.below hB) hsz)
  obtain ⟨d0, d1, d2⟩ := hT.cells
  rw [hW] at d0 d1 d2
  have HW := Hid.mk' hW.symm
  clear hW
  go_enter Try.func54, Try.ntmps54
  go_wp2_with fail
  rw [HW.out]
  refine HC.out.mono ?_
  rintro e w2 ⟨g2, c2, rfl, hO2, hb2⟩
  have hT2 := hT.below hb2
  have hR2 := hR.below hb2
  have hB2 := hB.trans (hb2.mono hB.size)
  have hT0 : w2.heap[w.heap.size]? = some (.cells #[.int .i64 kind, .int .i64 tx, .slice a len cap] 32 (0, 0)) := hT2
  have s0 := set_cur hT0 2 (.slice (some ⟨g2, 0, none⟩) len c2)
  have hT3 : BoxR w.heap.size kind tx (.slice (some ⟨g2, 0, none⟩) len c2) (w2.setCell ⟨w.heap.size, 2, none⟩ (.slice (some ⟨g2, 0, none⟩) len c2)) := s0.1
  have hR3 := hR2.grown s0.2 (by simp)
  have hg2 := hO2.lt
  have hWl := hT.lt
  have hWl2 := hR.lt
  have hO3 := (hO2.mono hB.size).grown s0.2 (by simp; omega)
  have hB3 := hB2.grown s0.2 hB2.size (fun j e => by cases e; exact Nat.le_refl _)
  clear d0 d1 d2
  obtain ⟨d0, d1, d2⟩ := hT2.cells
  have fz2 : w2.frozen? ⟨w.heap.size, 2, none⟩ = false := by simp [World.frozen?, hT0]
  obtain ⟨W3, hW3⟩ : ∃ W3, W3 = w2.setCell ⟨w.heap.size, 2, none⟩ (.slice (some ⟨g2, 0, none⟩) len c2) := ⟨_, rfl⟩
  rw [← hW3] at hT3 hR3 hO3 hB3
  obtain ⟨t0, t1, t2⟩ := hT3.cells
  obtain ⟨r0, r1, r2⟩ := hR3.cells
  have hR0 : W3.heap[w.heap.size + 1]? = some (.cells #[.int .i64 0, .int .i64 0, .slice none 0 0] 32 (0, 0)) := hR3
  have f0 : W3.frozen? ⟨w.heap.size + 1, 0, none⟩ = false := by simp [World.frozen?, hR0]
  have f1 : W3.frozen? ⟨w.heap.size + 1, 1, none⟩ = false := by simp [World.frozen?, hR0]
  have f2 : W3.frozen? ⟨w.heap.size + 1, 2, none⟩ = false := by simp [World.frozen?, hR0]
  have z0 := set_cur hR0 0 (.int .i64 kind)
  have z1 := set_cur z0.1 1 (.int .i64 tx)
  have z2 := set_cur z1.1 2 (.slice (some ⟨g2, 0, none⟩) len c2)
  have zg := grownBy_trans (grownBy_trans z0.2 z1.2) z2.2
  have hz : BoxR (w.heap.size + 1) kind tx (.slice (some ⟨g2, 0, none⟩) len c2) _ := z2.1
  have hzc := hz.cells
  have HBz := Hid.mk' (hB3.grown zg hB3.size (fun j e => by cases e; omega))
  have HOz := Hid.mk' (hO3.grown zg (by simp; omega))
  have HW3 := Hid.mk' hW3.symm
  rw [hW3] at t0 t1 t2 r0 r1 r2 f0 f1 f2
  clear hW3 hT0 hR0 z0 z1 z2 s0
  go_wp2_with fail
  rw [HW3.out]
  refine bodyPost_ret (v := .agg #[.int .i64 kind, .int .i64 tx, .slice (some ⟨g2, 0, none⟩) len c2]) ?_ rfl ⟨_, _, rfl, HOz.out, HBz.out⟩
  simp [results, Try.results54, go_sem, hzc.1, hzc.2.1, hzc.2.2]
end Go.Proofs.Ytooiinicnkhlbaa.recs

namespace Go.Proofs.Ytooiinicnkhlbaa.recs
open Go Go.RowKit Go.Proofs.Ytooiinicnkhlbaa.base Go.Proofs.Ytooiinicnkhlbaa.pairs Go.Proofs.Ytooiinicnkhlbaa.ords
set_option linter.unusedVariables false
set_option linter.unusedSimpArgs false

def NoKey (o : Od) (ops : List Od) : Prop := ∀ p ∈ ops, o.2.1 ≠ p.2.1
def NoKeys (os ops : List Od) : Prop := ∀ o ∈ os, NoKey o ops
theorem locked_false {held : List Rc} {ops : List Od} (h : ∀ r ∈ held, NoKeys r.2.2 ops) : locked held ops = false := by
  rw [← Bool.not_eq_true]
  intro e
  unfold locked at e
  simp only [List.any_eq_true, decide_eq_true_eq] at e
  obtain ⟨r, hr, o, ho, p, hp, e⟩ := e
  exact h r hr o ho p hp e
theorem locked_true {held : List Rc} {ops : List Od} {r : Rc} {o p : Od} (hr : r ∈ held) (ho : o ∈ r.2.2) (hp : p ∈ ops) (e : o.2.1 = p.2.1) : locked held ops = true := by
  unfold locked
  simp only [List.any_eq_true, decide_eq_true_eq]
  exact ⟨r, hr, o, ho, p, hp, e⟩
theorem all_snoc {α : Type} {P : α → Prop} {l : List α} {k : Nat} (h : k < l.length) (h1 : ∀ x ∈ l.take k, P x) (h2 : P l[k]) : ∀ x ∈ l.take (k + 1), P x := by
  intro x hx
  rw [List.take_succ_eq_append_getElem h] at hx
  rcases List.mem_append.1 hx with e | e
  · exact h1 x e
  · rw [List.mem_singleton.1 e]; exact h2

set_option maxRecDepth 100000 in
set_option maxHeartbeats 4000000 in
theorem spec_locked (a : Option Addr) (len cap : Nat) (l : List Rc) (a2 : Option Addr) (len2 cap2 : Nat) (ops : List Od) (w : World) (h : SlR w a len l) (h2 : SlO w a2 len2 ops) :
    Calls Try.prog 64 #[.slice a len cap, .slice a2 len2 cap2] w fun e w' => e = .returned (.bool (locked l ops)) ∧ Below w.heap.size w w' := by
  obtain ⟨hl, hm, hsm, hc⟩ := id h
  obtain ⟨hl2, hm2, hsm2, hc2⟩ := id h2
  subst hl hl2
  unfold maxLen at hm hm2
  generalize hR : locked l ops = R
  have HR := Hid.mk' hR
  clear hR
  go_enter Try.func64, Try.ntmps64
  go_wp2_with fail
  go_loopw [5] (fun i wr => ∃ k : Nat, k ≤ l.length ∧ i = .int .i64 (k : Int) ∧ (∀ r ∈ l.take k, NoKeys r.2.2 ops) ∧ Below w.heap.size w wr) (fun i _ => l.length - (intOf i).toNat)
  case atStart => exact ⟨0, Nat.zero_le _, rfl, by simp, Below.refl _ _⟩
  case round =>
    obtain ⟨k, hk, rfl, hno, hB⟩ := hrel
    by_cases hlt : k < l.length
    · obtain ⟨b, off, ha, _⟩ := hc (by omega)
      subst ha
      have hki : (k : Int) < (l.length : Int) := by omega
      have hat := h.at k hlt
      obtain ⟨_, _, pa, pl, pc, c2', hSo', _⟩ := hat
      have hbl : b < w.heap.size := World.block_lt_of_cell? w _ c2'
      have HC : Hid (∀ wx, Below w.heap.size w wx → wx.cell? ⟨b, off + k * 3 + 2, none⟩ = some (.slice pa pl pc)) := fun wx hx => (hx.cell (p := ⟨b, off + k * 3 + 2, none⟩) hbl).trans c2'
      have HMEM : Hid (l[k] ∈ l) := List.getElem_mem hlt
      have HSN : Hid (NoKeys l[k].2.2 ops → ∀ r ∈ l.take (k + 1), NoKeys r.2.2 ops) := fun hh => all_snoc hlt hno hh
      generalize l[k] = r at *
      obtain ⟨hpl, hpm, hps, hpc⟩ := id hSo'
      subst hpl
      unfold maxLen at hpm
      clear hno c2'
      go_wp2_with fail
      go_loopw [6] (fun i wr => ∃ j : Nat, j ≤ r.2.2.length ∧ i = .int .i64 (j : Int) ∧ NoKeys (r.2.2.take j) ops ∧ Below w.heap.size w wr) (fun i _ => r.2.2.length - (intOf i).toNat)
      case atStart => exact ⟨0, Nat.zero_le _, rfl, by intro o ho; simp at ho, hB⟩
      case round =>
        clear hB
        obtain ⟨j, hj, rfl, hnj, hB⟩ := hrel
        have c2 := HC.out _ hB
        by_cases hlj : j < r.2.2.length
        · obtain ⟨pb, po, hpa, _⟩ := hpc (by omega)
          subst hpa
          have hji : (j : Int) < (r.2.2.length : Int) := by omega
          have hcj := (hSo'.cells j hlj).2.1
          have hpb : pb < w.heap.size := World.block_lt_of_cell? w _ hcj
          have HCJ : Hid (∀ wx, Below w.heap.size w wx → wx.cell? ⟨pb, po + j * 3 + 1, none⟩ = some (.string r.2.2[j].2.1)) := fun wx hx => (hx.cell (p := ⟨pb, po + j * 3 + 1, none⟩) hpb).trans hcj
          have HIN : Hid (∀ p ∈ ops, r.2.2[j].2.1 = p.2.1 → R = true) := fun p hp e => by rw [← HR.out]; exact locked_true HMEM.out (List.getElem_mem hlj) hp e
          have HSJ : Hid (NoKey r.2.2[j] ops → NoKeys (r.2.2.take (j + 1)) ops) := fun hh => all_snoc (P := fun o => NoKey o ops) hlj hnj hh
          generalize r.2.2[j] = o at *
          clear hnj hcj
          go_wp2_with fail
          go_loopw [7] (fun i wr => ∃ q : Nat, q ≤ ops.length ∧ i = .int .i64 (q : Int) ∧ NoKey o (ops.take q) ∧ Below w.heap.size w wr) (fun i _ => ops.length - (intOf i).toNat)
          case atStart => exact ⟨0, Nat.zero_le _, rfl, by intro p hp; simp at hp, hB⟩
          case round =>
            clear hB c2
            obtain ⟨q, hq, rfl, hnq, hB⟩ := hrel
            by_cases hlq : q < ops.length
            · obtain ⟨ob, oo, hoa, _⟩ := hc2 (by omega)
              subst hoa
              have hqi : (q : Int) < (ops.length : Int) := by omega
              have hcq := (h2.cells q hlq).2.1
              have hob : ob < w.heap.size := World.block_lt_of_cell? w _ hcq
              have hbs := hB.size
              have c3 := (hB.cell (p := ⟨ob, oo + q * 3 + 1, none⟩) hob).trans hcq
              have y1 := last.On.cell (B := wr.heap.size) (HC.out _ hB) (by omega)
              have y2 := last.On.cell (B := wr.heap.size) (HCJ.out _ hB) (by omega)
              have y3 := last.On.cell (B := wr.heap.size) c3 (by omega)
              have hinh := last.On.inh wr.heap.size wr
              by_cases e : o.2.1 = ops[q].2.1
              · have HP : Hid (R = true) := HIN.out _ (List.getElem_mem hlq) e
                rw [← e] at y3
                have eb : (o.2.1.toList == o.2.1.toList) = true := by simp
                clear hnq c3 hcq e
                go_wp2_with fail
                refine last.wp_region_on wr.heap.size (by kernel_rfl) (by kernel_rfl) ?_
                repeat (go_big_quiet_step (fail))
                refine wpQuiet_nil ?_
                intro w5 hw5
                obtain ⟨x5, hw5⟩ := hw5
                have hb5 : Below wr.heap.size wr w5 := by rw [hw5]; exact x5.2
                clear hw5 x5 hinh y1 y2 y3
                go_wp2_with fail
                go_ret
                exact ⟨ret_bool HP.out.symm, hB.trans (hb5.mono hB.size)⟩
              · have HN : Hid (NoKey o (ops.take (q + 1))) := all_snoc (P := fun p : Od => o.2.1 ≠ p.2.1) hlq hnq e
                have eb : (o.2.1.toList == ops[q].2.1.toList) = false := beq_eq_false_iff_ne.2 (fun e2 => e (by
                  rw [ByteArray.toList_eq, ByteArray.toList_eq] at e2
                  exact bytes_ext e2))
                clear hnq c3 hcq e
                generalize ops[q] = p at *
                go_wp2_with fail
                refine last.wp_region_on wr.heap.size (by kernel_rfl) (by kernel_rfl) ?_
                repeat (go_big_quiet_step (fail))
                refine wpQuiet_nil ?_
                intro w5 hw5
                obtain ⟨x5, hw5⟩ := hw5
                have hb5 : Below wr.heap.size wr w5 := by rw [hw5]; exact x5.2
                clear hw5 x5 hinh y1 y2 y3
                go_wp2_with fail
                go_roundw
                case rel => exact ⟨q + 1, by omega, by go_num, HN.out, hB.trans (hb5.mono hB.size)⟩
                case measure => simp [intOf]; omega
            · have hql : ¬ (q : Int) < (ops.length : Int) := by omega
              have HN : Hid (NoKeys (r.2.2.take (j + 1)) ops) := HSJ.out (by rwa [List.take_of_length_le (by omega)] at hnq)
              go_wp2_with fail
              go_roundw
              case rel => exact ⟨j + 1, by omega, by go_num, HN.out, hB⟩
              case measure => simp [intOf]; omega
        · have hjl : ¬ (j : Int) < (r.2.2.length : Int) := by omega
          have HN : Hid (∀ r ∈ l.take (k + 1), NoKeys r.2.2 ops) := HSN.out (by rwa [List.take_of_length_le (by omega)] at hnj)
          go_wp2_with fail
          go_roundw
          case rel => exact ⟨k + 1, by omega, by go_num, HN.out, hB⟩
          case measure => simp [intOf]; omega
    · have HP : Hid (R = false) := by
        show _ = _
        rw [← HR.out]
        rw [List.take_of_length_le (by omega)] at hno
        exact locked_false hno
      go_wp2_with fail
      go_ret
      exact ⟨ret_bool HP.out.symm, hB⟩
end Go.Proofs.Ytooiinicnkhlbaa.recs

namespace Go.Proofs.Ytooiinicnkhlbaa.last
open Go Go.RowKit
section
variable {P : Program} {ops : Array Oper} {md : Region.Mode} {Q : Exit → Act → World → Prop} {S : World → Prop} {z : Nat}

/-- whatever order is picked from here on, and S holds behind every operation but number z -/
def wpAnyL (P : Program) (md : Region.Mode) (ops : Array Oper) (Q : Exit → Act → World → Prop) (S : World → Prop) (z : Nat) : Nat → Array Bool → Act → World → Prop
  | 0, listed, a, w => Region.ready md ops listed = [] ∧ Q .normal a w
  | fuel + 1, listed, a, w =>
    (Region.ready md ops listed = [] → Q .normal a w) ∧
    ∀ i ∈ Region.ready md ops listed, wpOp P ops Q i (fun a' w' => (i ≠ z → S w') ∧ wpAnyL P md ops Q S z fuel (listed.setIfInBounds i true) a' w') a w
theorem wpAny_of_later : ∀ (fuel : Nat) (listed : Array Bool) (a : Act) (w : World), wpAnyL P md ops Q S z fuel listed a w → wpAny P md ops Q fuel listed a w
  | 0, _, _, _, h => h
  | fuel + 1, _, _, _, h => ⟨h.1, fun i hi => wpOp_mono (fun a' w' h' => wpAny_of_later fuel _ a' w' h'.2) (h.2 i hi)⟩
theorem wpAnyL_first {i : Nat} {oi : Oper} {v : Value} (hi : ops[i]? = some oi) (hsel : ∀ (j : Nat) (o : Oper) cs b, ops[j]? = some o → o.op ≠ .select cs b)
    (hQ : ∀ c a w, Q (.panic c) (a.put oi.dst v) w → Q (.panic c) a w) {oz : Oper} (hz : ops[z]? = some oz) (hzi : ∃ e ∈ oz.after, Region.binds md e = true ∧ e.on = i) :
    ∀ (fuel : Nat) (listed : Array Bool) (a : Act) (w : World),
      (∀ j oj, ops[j]? = some oj → j ≠ i → listed.getD j true = false → (∀ e ∈ oj.after, Region.binds md e = true → e.on ≠ i) → oi.apart ops oj = true) →
      i ∈ Region.ready md ops listed → YieldsIf P ops S oi v a → S w →
      wpAnyL P md ops Q S z fuel (listed.setIfInBounds i true) (a.put oi.dst v) w → wpAnyL P md ops Q S z (fuel + 1) listed a w := by
  have hnz : ∀ {listed : Array Bool} {j : Nat}, i ∈ Region.ready md ops listed → j ∈ Region.ready md ops listed → j ≠ z := fun hr hj e => by
    subst e
    obtain ⟨e, he, hb, heq⟩ := hzi
    exact both_ready hr hj hz e he hb heq
  intro fuel
  induction fuel with
  | zero =>
    intro listed a w _ hr hy hS H
    refine ⟨fun h => (by rw [h] at hr; cases hr), fun j hj => ?_⟩
    by_cases hji : j = i
    · subst hji; exact hy.wpOp hi hS ⟨fun _ => hS, H⟩
    · have := ready_mono hj hji
      rw [H.1] at this
      cases this
  | succ fuel ih =>
    intro listed a w hfree hr hy hS H
    refine ⟨fun h => (by rw [h] at hr; cases hr), fun j hj => ?_⟩
    by_cases hji : j = i
    · subst hji; exact hy.wpOp hi hS ⟨fun _ => hS, H⟩
    · have h1 := H.2 j (ready_mono hj hji)
      obtain ⟨hjun, oj, hoj, hall⟩ := mem_ready.1 hj
      have hnot : ∀ e ∈ oj.after, Region.binds md e = true → e.on ≠ i := both_ready hr hj hoj
      have h2 := wpOp_putIf hoj (hfree j oj hoj hji hjun hnot) (fun cs b => hsel i oi cs b hi) (fun cs b => hsel j oj cs b hoj) hQ hy h1
      have hfree' : ∀ k ok, ops[k]? = some ok → k ≠ i → (listed.setIfInBounds j true).getD k true = false →
          (∀ e ∈ ok.after, Region.binds md e = true → e.on ≠ i) → oi.apart ops ok = true := fun k ok hk hki hun hno => by
        refine hfree k ok hk hki ?_ hno
        by_cases hjk : j = k
        · subst hjk; exact hjun
        · rw [getD_set_ne true hjk] at hun; exact hun
      have hjz := hnz hr hj
      refine wpOp_mono (fun a' w' h3 => ⟨h3.2.1, ih (listed.setIfInBounds j true) a' w' hfree' (ready_mono hr (Ne.symm hji)) h3.1 (h3.2.1 hjz) ?_⟩) h2
      rw [Array.setIfInBounds_comm _ _ hji]
      exact h3.2.2
theorem wpAnyL_take {i : Nat} {oi oz : Oper} {v : Value} {fuel : Nat} {listed : Array Bool} {a : Act} {w : World} (hi : ops[i]? = some oi) (hz : ops[z]? = some oz)
    (hs : Region.noSelect ops = true) (hf : Region.free md ops listed i = true) (hr : (Region.ready md ops listed).contains i = true) (hw : waits md oz i = true)
    (hQ : ∀ c a w, Q (.panic c) (a.put oi.dst v) w → Q (.panic c) a w) (hy : YieldsIf P ops S oi v a) (hS : S w)
    (h : wpAnyL P md ops Q S z fuel (listed.setIfInBounds i true) (a.put oi.dst v) w) : wpAnyL P md ops Q S z (fuel + 1) listed a w := by
  have hwz : ∃ e ∈ oz.after, Region.binds md e = true ∧ e.on = i := by
    obtain ⟨e, he, hb⟩ := Array.any_eq_true'.1 hw
    simp only [Bool.and_eq_true, beq_iff_eq] at hb
    exact ⟨e, he, hb⟩
  exact wpAnyL_first hi (Region.noSelect_spec hs) hQ hz hwz fuel listed a w (Region.free_spec hi hf) (by simpa using hr) hy hS h
/-- the one operation that may come up now -/
theorem wpAnyL_one {i : Nat} {o : Oper} {fuel : Nat} {listed : Array Bool} {a : Act} {w : World} (hr : Region.ready md ops listed = [i]) (ho : ops[i]? = some o)
    (h : ∀ K' : Act → World → Prop, Shut (∀ a w, S w → (S w → wpAnyL P md ops Q S z fuel (listed.setIfInBounds i true) a w) → K' a w) → if Region.wanted o (yielded ops a.tmps) = true then Oper.wp P o a w K' Q else K' (a.put o.dst undef) w) :
    wpAnyL P md ops Q S z (fuel + 1) listed a w :=
  by
  refine ⟨fun h0 => ?_, fun j hj => ?_⟩
  · rw [hr] at h0; cases h0
  · rw [hr] at hj
    obtain rfl := List.mem_singleton.1 hj
    exact wpOp_step ho (fun K' hK => h K' (fun a w hS hW => hK a w ⟨fun _ => hS, hW hS⟩))
/-- one of two may come up now -/
theorem wpAnyL_two {i j : Nat} {o o' : Oper} {fuel : Nat} {listed : Array Bool} {a : Act} {w : World} (hr : Region.ready md ops listed = [i, j]) (ho : ops[i]? = some o) (ho' : ops[j]? = some o')
    (h : ∀ K' : Act → World → Prop, Shut (∀ a w, S w → (S w → wpAnyL P md ops Q S z fuel (listed.setIfInBounds i true) a w) → K' a w) → if Region.wanted o (yielded ops a.tmps) = true then Oper.wp P o a w K' Q else K' (a.put o.dst undef) w)
    (h' : ∀ K' : Act → World → Prop, Shut (∀ a w, S w → (S w → wpAnyL P md ops Q S z fuel (listed.setIfInBounds j true) a w) → K' a w) → if Region.wanted o' (yielded ops a.tmps) = true then Oper.wp P o' a w K' Q else K' (a.put o'.dst undef) w) :
    wpAnyL P md ops Q S z (fuel + 1) listed a w := by
  refine ⟨fun h0 => ?_, fun k hk => ?_⟩
  · rw [hr] at h0; cases h0
  · rw [hr] at hk
    rcases List.mem_cons.1 hk with rfl | hk
    · exact wpOp_step ho (fun K' hK => h K' (fun a w hS hW => hK a w ⟨fun _ => hS, hW hS⟩))
    · obtain rfl := List.mem_singleton.1 hk
      exact wpOp_step ho' (fun K' hK => h' K' (fun a w hS hW => hK a w ⟨fun _ => hS, hW hS⟩))
/-- the last one -/
theorem wpAnyL_last {o : Oper} {fuel : Nat} {listed : Array Bool} {a : Act} {w : World} (hr : Region.ready md ops listed = [z]) (ho : ops[z]? = some o) (hd : Region.ready md ops (listed.setIfInBounds z true) = [])
    (h : ∀ K' : Act → World → Prop, Shut (∀ a w, Q .normal a w → K' a w) → if Region.wanted o (yielded ops a.tmps) = true then Oper.wp P o a w K' Q else K' (a.put o.dst undef) w) :
    wpAnyL P md ops Q S z (fuel + 1) listed a w :=
  by
  refine ⟨fun h0 => ?_, fun j hj => ?_⟩
  · rw [hr] at h0; cases h0
  · rw [hr] at hj
    obtain rfl := List.mem_singleton.1 hj
    refine wpOp_step ho (fun K' hK => h K' (fun a w hq => hK a w ⟨fun h => absurd rfl h, ?_⟩))
    cases fuel with
    | zero => exact ⟨hd, hq⟩
    | succ k => exact ⟨fun _ => hq, by rw [hd]; simp⟩
theorem wp_region_later {id : Nat} {a : Act} {w : World} (z : Nat) (hm : P.follows .mixedOrders = true) (hS : S w.drew)
    (h : S w.drew → wpAnyL P .any ops Q S z ops.size (Array.replicate ops.size false) a w.drew) : (Code.region id ops true).wp P Q a w :=
  wp_region_any hm (wpAny_of_later _ _ _ _ (h hS))
end
end Go.Proofs.Ytooiinicnkhlbaa.last

namespace Go.Proofs.Ytooiinicnkhlbaa.stepc
open Go Go.RowKit
theorem step_call_sl {P : Program} {ops : Array Oper} {o : Oper} {a : Act} {w : World} {K : Act → World → Prop} {Q : Exit → Act → World → Prop} {E : Prop} (hgd : o.guard = none) (f : FuncId) (x y : Operand) (ts : Array TypeId)
    (ho : o.op = .call { callee := .value (.func f), args := #[x, y], argTypes := ts }) (hent : ∀ args w, (callFunc f args).run P w = .ok (.enter f args) w)
    (v1 v2 : Value) (h1 : a.eval x = v1) (h2 : a.eval y = v2) (R : Nat → Nat → Nat → World → Prop)
    (hc : Calls P f #[v1, v2] w fun e w' => ∃ g n c, e = .returned (.slice (some ⟨g, 0, none⟩) n c) ∧ R g n c w')
    (h : ∀ g n c w', R g n c w' → K (a.put o.dst (.slice (some ⟨g, 0, none⟩) n c)) w') :
    if Region.wanted o (yielded ops a.tmps) = true then Oper.wp P o a w K Q else E := by
  have hw : Region.wanted o (yielded ops a.tmps) = true := by simp [Region.wanted, hgd]
  rw [if_pos hw]
  unfold Oper.wp execOp
  have hf : a.eval (.func f) = .func (.func f) #[] #[] := rfl
  have hof : (Deferred.ofValue (Value.func (Fn.func f) #[] #[]) #[v1, v2]).run P w = .ok { target := .fn (.func f) #[], args := #[v1, v2] } w := rfl
  simp only [ho, resolve, invoke, Sem.run_bind, List.map_toArray, List.map_cons, List.map_nil, h1, h2, hf, hof, Result.andThen_ok, hent]
  show Calls P f #[v1, v2] w _
  exact hc.mono (fun e w' he => by obtain ⟨g, n, c, rfl, hr⟩ := he; exact h g n c w' hr)
end Go.Proofs.Ytooiinicnkhlbaa.stepc

namespace Go.Proofs.Ytooiinicnkhlbaa.recs
open Go Go.RowKit Go.Proofs.Ytooiinicnkhlbaa.base Go.Proofs.Ytooiinicnkhlbaa.pairs Go.Proofs.Ytooiinicnkhlbaa.ords
set_option linter.unusedVariables false
set_option linter.unusedSimpArgs false

def BoxS (X : Nat) (x y z : Value) (w : World) : Prop := w.heap[X]? = some (.cells #[x, y, z] 66 (0, 0))
section
variable {X : Nat} {x y z : Value} {w w' : World}
theorem BoxS.cells (h : BoxS X x y z w) : w.cell? ⟨X, 0, none⟩ = some x ∧ w.cell? ⟨X, 1, none⟩ = some y ∧ w.cell? ⟨X, 2, none⟩ = some z := by
  unfold BoxS at h
  simp [World.cell?, h]
theorem BoxS.lt (h : BoxS X x y z w) : X < w.heap.size := (Array.getElem?_eq_some_iff.1 h).1
theorem BoxS.below (h : BoxS X x y z w) (hb : Below w.heap.size w w') : BoxS X x y z w' := (hb.block X h.lt).trans h
theorem BoxS.grown {row : Option Nat} (h : BoxS X x y z w) (hg : w.grownBy w' row) (hne : some X ≠ row) : BoxS X x y z w' := (hg.block X h.lt hne).trans h
theorem BoxS.fz (h : BoxS X x y z w) (j : Nat) : w.frozen? ⟨X, j, none⟩ = false := by unfold BoxS at h; simp [World.frozen?, h]
theorem BoxS.ne {b size n : Nat} {e : TypeId} {v : Value} {xs : List Value} (h : BoxS X x y z w) (h2 : w.ownsRow b e size v n xs) (hne : e ≠ 66) : some X ≠ v.ownBlock := by
  intro hk
  rcases h2.2 with ⟨rfl, _⟩ | ⟨g, c, cur, rfl, _, hg, _⟩
  · cases hk
  simp only [Value.ownBlock, Option.some.injEq] at hk
  unfold BoxS at h
  rw [hk, hg] at h
  injection h with h
  injection h with _ he
  exact hne he
end
/-- a row of whole numbers of the call's own, or nil -/
def OwnQ (w : World) (base : Nat) (v : Value) (zs : List Int) : Prop := w.ownsRow base 3 1 v zs.length (intVals zs)
section
variable {w w' : World} {base : Nat} {v : Value} {zs : List Int}
theorem ownQ_nil (w : World) (base : Nat) : OwnQ w base (.slice none 0 0) [] := World.ownsRow_nil _ _ _ _
theorem OwnQ.sl (h : OwnQ w base v zs) : ∃ a cap, v = .slice a zs.length cap ∧ SlZ w a zs.length zs := by
  rcases h.2 with ⟨rfl, h0⟩ | ⟨g, cap, cur, rfl, _, _, h1, h2, _⟩
  · have : zs = [] := List.eq_nil_of_length_eq_zero h0
    subst this
    exact ⟨none, 0, rfl, rfl, Nat.zero_le _, fun h => absurd h (by simp)⟩
  · exact ⟨_, cap, rfl, OwnZ.sl (base := base) ⟨rfl, h⟩⟩
end
structure Kept (w0 w : World) (X gm nm cm gh ch : Nat) (vs : Value) (s : St) (hs : List Value) : Prop where
  box : BoxS X (.slice (some ⟨gm, 0, none⟩) nm cm) (.slice (some ⟨gh, 0, none⟩) s.2.1.length ch) vs w
  m : OwnP w w0.heap.size gm nm cm s.1
  held : OwnR w w0.heap.size (.slice (some ⟨gh, 0, none⟩) s.2.1.length ch) s.2.1 hs
  seen : OwnQ w w0.heap.size vs s.2.2
  bel : Below w0.heap.size w0 w
  new : w0.heap.size ≤ X
section
variable {w0 w w' w7 : World} {X gm nm cm gh ch : Nat} {vs : Value} {s : St} {hs : List Value}
theorem Kept.below (h : Kept w0 w X gm nm cm gh ch vs s hs) (hb : Below w.heap.size w w') : Kept w0 w' X gm nm cm gh ch vs s hs :=
  ⟨h.box.below hb, h.m.below hb, h.held.below hb, rowR_of_block h.seen fun k hk => hb.block k (h.seen.lt k hk).2, h.bel.trans (hb.mono h.bel.size), h.new⟩
/-- one number more was seen -/
theorem Kept.see {v7 : Value} {z : Int} (h : Kept w0 w X gm nm cm gh ch vs s hs) (hown : w7.ownsRow w0.heap.size 3 1 v7 (s.2.2.length + 1) (intVals s.2.2 ++ intVals [z])) (hgrow : w.grownBy w7 vs.ownBlock) :
    BoxS X (.slice (some ⟨gm, 0, none⟩) nm cm) (.slice (some ⟨gh, 0, none⟩) s.2.1.length ch) vs w7 ∧ Kept w0 (w7.setCell ⟨X, 2, none⟩ v7) X gm nm cm gh ch v7 (s.1, s.2.1, s.2.2 ++ [z]) hs := by
  have hX := h.box.ne h.seen (by decide)
  have b7 := h.box.grown hgrow hX
  have hm7 : OwnP w7 w0.heap.size gm nm cm s.1 := h.m.grown hgrow (fun e => recRow_ne h.m.2.2 h.seen rfl e.symm (by decide))
  have hh7 : OwnR w7 w0.heap.size (.slice (some ⟨gh, 0, none⟩) s.2.1.length ch) s.2.1 hs := h.held.of_blocks fun k hk => hgrow.block k (h.held.lt k hk).2 (fun e => by
    rcases hk with e2 | ⟨y, hy, e2⟩
    · exact recRow_ne h.held.row h.seen e2 e.symm (by decide)
    · obtain ⟨i, hi, rfl⟩ := List.getElem_of_mem hy
      exact recRow_ne (h.held.ops i (by have := h.held.len; omega)).2 h.seen e2 e.symm (by decide))
  have hs7 : OwnQ w7 w0.heap.size v7 (s.2.2 ++ [z]) := by unfold OwnQ; rw [intVals_append, List.length_append]; exact hown
  have c7 := set_cur b7 2 v7
  refine ⟨b7, c7.1, hm7.grown c7.2 (fun e => b7.ne hm7.2.2 (by decide) e.symm), hh7.of_blocks fun k hk => c7.2.block k (hh7.lt k hk).2 (fun e => ?_), rowR_of_block hs7 fun k hk => c7.2.block k (hs7.lt k hk).2 (fun e => b7.ne hs7 (by decide) (by rw [hk, e])), ?_, h.new⟩
  · rcases hk with e2 | ⟨y, hy, e2⟩
    · exact b7.ne hh7.row (by decide) (by rw [e2, e])
    · obtain ⟨i, hi, rfl⟩ := List.getElem_of_mem hy
      exact b7.ne (hh7.ops i (by have := hh7.len; omega)).2 (by decide) (by rw [e2, e])
  · have B7 := h.bel.grown hgrow h.bel.size (fun k e => (h.seen.lt k e).1)
    exact B7.grown c7.2 B7.size (fun k e => by cases e; exact h.new)
/-- one record more is held -/
theorem Kept.hold {g7 c7 : Nat} {x : Rc} {y : Value} (h : Kept w0 w X gm nm cm gh ch vs s hs) (hP : OwnV w w0.heap.size y x.2.2) (hx : smallR x) (hy : ∀ k, y.ownBlock = some k → ¬ BlkR (.slice (some ⟨gh, 0, none⟩) s.2.1.length ch) hs k)
    (hown : w7.ownsRow w0.heap.size 32 3 (.slice (some ⟨g7, 0, none⟩) (s.2.1.length + 1) c7) (s.2.1.length + 1) (recVals s.2.1 hs ++ [.int .i64 x.1, .int .i64 x.2.1, y])) (hgrow : w.grownBy w7 (some gh)) :
    BoxS X (.slice (some ⟨gm, 0, none⟩) nm cm) (.slice (some ⟨gh, 0, none⟩) s.2.1.length ch) vs w7 ∧ Kept w0 (w7.setCell ⟨X, 1, none⟩ (.slice (some ⟨g7, 0, none⟩) (s.2.1.length + 1) c7)) X gm nm cm g7 c7 vs (s.1, s.2.1 ++ [x], s.2.2) (hs ++ [y]) := by
  have hX := h.box.ne h.held.row (by decide)
  have b7 := h.box.grown hgrow hX
  have hm7 : OwnP w7 w0.heap.size gm nm cm s.1 := h.m.grown hgrow (fun e => recRow_ne h.m.2.2 h.held.row rfl e.symm (by decide))
  have hh7 : OwnR w7 w0.heap.size (.slice (some ⟨g7, 0, none⟩) (s.2.1.length + 1) c7) (s.2.1 ++ [x]) (hs ++ [y]) := h.held.snoc hP hx hy hown hgrow
  have hs7 : OwnQ w7 w0.heap.size vs s.2.2 := rowR_of_block h.seen fun k hk => hgrow.block k (h.seen.lt k hk).2 (fun e => recRow_ne h.seen h.held.row hk e.symm (by decide))
  have c7 := set_cur b7 1 (.slice (some ⟨g7, 0, none⟩) (s.2.1.length + 1) c7)
  refine ⟨b7, ?_, hm7.grown c7.2 (fun e => b7.ne hm7.2.2 (by decide) e.symm), ?_, rowR_of_block hs7 fun k hk => c7.2.block k (hs7.lt k hk).2 (fun e => b7.ne hs7 (by decide) (by rw [hk, e])), ?_, h.new⟩
  · have := c7.1
    simp only [List.length_append, List.length_singleton]
    exact this
  · simp only [List.length_append, List.length_singleton]
    refine hh7.of_blocks fun k hk => c7.2.block k (hh7.lt k hk).2 (fun e => ?_)
    rcases hk with e2 | ⟨y, hy, e2⟩
    · exact b7.ne hh7.row (by decide) (by rw [e2, e])
    · obtain ⟨i, hi, rfl⟩ := List.getElem_of_mem hy
      exact b7.ne (hh7.ops i (by have := hh7.len; omega)).2 (by decide) (by rw [e2, e])
  · have B7 := h.bel.grown hgrow h.bel.size (fun k e => by cases e; exact (h.held.row.lt gh rfl).1)
    exact B7.grown c7.2 B7.size (fun k e => by cases e; exact h.new)
/-- other pairs -/
theorem Kept.pairs {g' n' c' : Nat} {m' : List Pr} (h : Kept w0 w X gm nm cm gh ch vs s hs) (hO : OwnP w w0.heap.size g' n' c' m') :
    Kept w0 (w.setCell ⟨X, 0, none⟩ (.slice (some ⟨g', 0, none⟩) n' c')) X g' n' c' gh ch vs (m', s.2.1, s.2.2) hs := by
  have c7 := set_cur h.box 0 (.slice (some ⟨g', 0, none⟩) n' c')
  refine ⟨c7.1, hO.grown c7.2 (fun e => h.box.ne hO.2.2 (by decide) e.symm), h.held.of_blocks fun k hk => c7.2.block k (h.held.lt k hk).2 (fun e => ?_), rowR_of_block h.seen fun k hk => c7.2.block k (h.seen.lt k hk).2 (fun e => h.box.ne h.seen (by decide) (by rw [hk, e])), h.bel.grown c7.2 h.bel.size (fun k e => by cases e; exact h.new), h.new⟩
  rcases hk with e2 | ⟨y, hy, e2⟩
  · exact h.box.ne h.held.row (by decide) (by rw [e2, e])
  · obtain ⟨i, hi, rfl⟩ := List.getElem_of_mem hy
    exact h.box.ne (h.held.ops i (by have := h.held.len; omega)).2 (by decide) (by rw [e2, e])
/-- other records held -/
theorem Kept.cut {g' c' : Nat} {l' : List Rc} {hs' : List Value} (h : Kept w0 w X gm nm cm gh ch vs s hs) (hO : OwnR w w0.heap.size (.slice (some ⟨g', 0, none⟩) l'.length c') l' hs') :
    Kept w0 (w.setCell ⟨X, 1, none⟩ (.slice (some ⟨g', 0, none⟩) l'.length c')) X gm nm cm g' c' vs (s.1, l', s.2.2) hs' := by
  have c7 := set_cur h.box 1 (.slice (some ⟨g', 0, none⟩) l'.length c')
  refine ⟨c7.1, h.m.grown c7.2 (fun e => h.box.ne h.m.2.2 (by decide) e.symm), hO.of_blocks fun k hk => c7.2.block k (hO.lt k hk).2 (fun e => ?_), rowR_of_block h.seen fun k hk => c7.2.block k (h.seen.lt k hk).2 (fun e => h.box.ne h.seen (by decide) (by rw [hk, e])), h.bel.grown c7.2 h.bel.size (fun k e => by cases e; exact h.new), h.new⟩
  rcases hk with e2 | ⟨y, hy, e2⟩
  · exact h.box.ne hO.row (by decide) (by rw [e2, e])
  · obtain ⟨i, hi, rfl⟩ := List.getElem_of_mem hy
    exact h.box.ne (hO.ops i (by have := hO.len; omega)).2 (by decide) (by rw [e2, e])
end
end Go.Proofs.Ytooiinicnkhlbaa.recs

namespace Go.Proofs.Ytooiinicnkhlbaa.recs
open Go Go.RowKit Go.Proofs.Ytooiinicnkhlbaa.base Go.Proofs.Ytooiinicnkhlbaa.pairs Go.Proofs.Ytooiinicnkhlbaa.ords
set_option linter.unusedVariables false
set_option linter.unusedSimpArgs false

/-- what one record more makes -/
def OnePost (w0 : World) (X : Nat) (r : Option St) (e : Ending) (w' : World) : Prop :=
  match r with
  | none => e = .returned (.bool false) ∧ Below w0.heap.size w0 w'
  | some t => e = .returned (.bool true) ∧ ∃ gm nm cm gh ch vs hs, Kept w0 w' X gm nm cm gh ch vs t hs

set_option maxRecDepth 100000 in
set_option maxHeartbeats 4000000 in
theorem one_bad (w0 w : World) (X gm nm cm gh ch : Nat) (vs : Value) (s : St) (hs : List Value) (kind tx : Int) (a : Option Addr) (len cap : Nat) (ops : List Od)
    (hK : Kept w0 w X gm nm cm gh ch vs s hs) (hSo : SlO w a len ops) (hks : ∀ p ∈ ops, p.2.1.size ≤ 1099511627776) (hok : recOk (kind, tx, ops) = false) :
    Calls Try.prog 34 #[.pointer (some ⟨X, 0, none⟩), .agg #[.int .i64 kind, .int .i64 tx, .slice a len cap]] w (OnePost w0 X none) := by
  obtain ⟨V, hV⟩ : ∃ V, V = w.alloc (.cells #[.int .i64 kind, .int .i64 tx, .slice a len cap] 32) := ⟨_, rfl⟩
  have hbV : Below w.heap.size w V := by rw [hV]; exact (Below.refl _ _).alloc (Nat.le_refl _) _
  have hbx : BoxR w.heap.size kind tx (.slice a len cap) V := by rw [hV]; exact boxR_new _ _ _ _
  have hKV := hK.below hbV
  have hXl := hKV.box.lt
  have hRl := hbx.lt
  have y1 := last.On.cell (B := V.heap.size) hKV.box.cells.2.1 hXl
  have y2 := last.On.cell (B := V.heap.size) hbx.cells.2.1 hRl
  have hAt : ∀ x9 : last.On V.heap.size V, Calls Try.prog 62 #[.slice (some ⟨gh, 0, none⟩) s.2.1.length ch, .int .i64 tx] x9.w fun e w' => e = .returned (.int .i64 (atRet (placeTx tx s.2.1))) ∧ ∃ y9 : last.On V.heap.size V, w' = y9.w := fun x9 => last.Calls.on x9 (Nat.le_refl _) ((spec_l8At _ _ ch s.2.1 tx x9.w (hKV.held.below x9.2).sl).mono (fun e w' h => ⟨h.1, h.2 ▸ Below.refl _ _⟩))
  have hinh := last.On.inh V.heap.size V
  have HV := Hid.mk' hV.symm
  clear hV
  go_enter Try.func34, Try.ntmps34
  go_wp2_with fail
  rw [HV.out]
  refine last.wp_region_on V.heap.size (by kernel_rfl) (by kernel_rfl) ?_
  repeat (go_big_quiet_step ((go_at_call 62; with_reducible exact hAt _)))
  refine wpQuiet_nil ?_
  intro w1 hw1
  obtain ⟨x1, hw1⟩ := hw1
  have hb1 : Below V.heap.size V w1 := by rw [hw1]; exact x1.2
  clear hw1 x1
  have hbx1 := hbx.below hb1
  have hK1 := hKV.below hb1
  have HOK := Hid.mk' (spec_recOk kind tx a len cap ops w1 ((hSo.below hbV).below hb1) hks)
  obtain ⟨d0, d1, d2⟩ := hbx1.cells
  clear y1 y2 hAt hinh
  go_wp2_with fail
  refine HOK.out.mono ?_
  rintro e w2 ⟨rfl, hb2⟩
  rw [hok]
  have hK2 := hK1.below hb2
  go_wp2_with fail
  go_ret
  exact ⟨rfl, hK2.bel⟩
end Go.Proofs.Ytooiinicnkhlbaa.recs

namespace Go.Proofs.Ytooiinicnkhlbaa.recs
open Go Go.RowKit Go.Proofs.Ytooiinicnkhlbaa.base Go.Proofs.Ytooiinicnkhlbaa.pairs Go.Proofs.Ytooiinicnkhlbaa.ords
set_option linter.unusedVariables false
set_option linter.unusedSimpArgs false

set_option maxRecDepth 100000 in
set_option maxHeartbeats 4000000 in
theorem one_has (w0 w : World) (X gm nm cm gh ch : Nat) (vs : Value) (s : St) (hs : List Value) (tx : Int) (a : Option Addr) (len cap : Nat) (ops : List Od)
    (hK : Kept w0 w X gm nm cm gh ch vs s hs) (hSo : SlO w a len ops) (hks : ∀ p ∈ ops, p.2.1.size ≤ 1099511627776) (hok : recOk (1, tx, ops) = true) (h1 : decide (tx ∈ s.2.2) = true) :
    Calls Try.prog 34 #[.pointer (some ⟨X, 0, none⟩), .agg #[.int .i64 1, .int .i64 tx, .slice a len cap]] w (OnePost w0 X none) := by
  obtain ⟨sa, sc, hvs, hSz⟩ := hK.seen.sl
  subst hvs
  obtain ⟨V, hV⟩ : ∃ V, V = w.alloc (.cells #[.int .i64 1, .int .i64 tx, .slice a len cap] 32) := ⟨_, rfl⟩
  have hbV : Below w.heap.size w V := by rw [hV]; exact (Below.refl _ _).alloc (Nat.le_refl _) _
  have hbx : BoxR w.heap.size 1 tx (.slice a len cap) V := by rw [hV]; exact boxR_new _ _ _ _
  have hKV := hK.below hbV
  have hXl := hKV.box.lt
  have hRl := hbx.lt
  have y1 := last.On.cell (B := V.heap.size) hKV.box.cells.2.1 hXl
  have y2 := last.On.cell (B := V.heap.size) hbx.cells.2.1 hRl
  have hAt : ∀ x9 : last.On V.heap.size V, Calls Try.prog 62 #[.slice (some ⟨gh, 0, none⟩) s.2.1.length ch, .int .i64 tx] x9.w fun e w' => e = .returned (.int .i64 (atRet (placeTx tx s.2.1))) ∧ ∃ y9 : last.On V.heap.size V, w' = y9.w := fun x9 => last.Calls.on x9 (Nat.le_refl _) ((spec_l8At _ _ ch s.2.1 tx x9.w (hKV.held.below x9.2).sl).mono (fun e w' h => ⟨h.1, h.2 ▸ Below.refl _ _⟩))
  have hinh := last.On.inh V.heap.size V
  have HV := Hid.mk' hV.symm
  clear hV
  generalize hP : atRet (placeTx tx s.2.1) = P at hAt
  go_enter Try.func34, Try.ntmps34
  go_wp2_with fail
  rw [HV.out]
  refine last.wp_region_on V.heap.size (by kernel_rfl) (by kernel_rfl) ?_
  repeat (go_big_quiet_step ((go_at_call 62; with_reducible exact hAt _)))
  refine wpQuiet_nil ?_
  intro w1 hw1
  obtain ⟨x1, hw1⟩ := hw1
  have hb1 : Below V.heap.size V w1 := by rw [hw1]; exact x1.2
  clear hw1 x1
  have hbx1 := hbx.below hb1
  have hK1 := hKV.below hb1
  have HOK := Hid.mk' (spec_recOk 1 tx a len cap ops w1 ((hSo.below hbV).below hb1) hks)
  obtain ⟨d0, d1, d2⟩ := hbx1.cells
  clear y1 y2 hAt hinh
  go_wp2_with fail
  refine HOK.out.mono ?_
  rintro e w2 ⟨rfl, hb2⟩
  rw [hok]
  have hK2 := hK1.below hb2
  have hbx2 := hbx1.below hb2
  have hSo2 := ((hSo.below hbV).below hb1).below hb2
  have hSz2 := ((hSz.below hbV).below hb1).below hb2
  clear d0 d1 d2 HOK HV hbx1 hbx hKV hXl hRl
  obtain ⟨d0, d1, d2⟩ := hbx2.cells
  have hX2 := hK2.box.lt
  have hR2 := hbx2.lt
  have o0 := last.On.cell (B := w2.heap.size) hK2.box.cells.1 hX2
  have o1 := last.On.cell (B := w2.heap.size) hK2.box.cells.2.1 hX2
  have o2 := last.On.cell (B := w2.heap.size) hK2.box.cells.2.2 hX2
  have o3 := last.On.cell (B := w2.heap.size) hbx2.cells.1 hR2
  have o4 := last.On.cell (B := w2.heap.size) hbx2.cells.2.1 hR2
  have o5 := last.On.cell (B := w2.heap.size) hbx2.cells.2.2 hR2
  have hinh2 := last.On.inh w2.heap.size w2
  have hHas : ∀ x9 : last.On w2.heap.size w2, Calls Try.prog 63 #[.slice sa s.2.2.length sc, .int .i64 tx] x9.w fun e w' => e = .returned (.bool (decide (tx ∈ s.2.2))) ∧ ∃ y9 : last.On w2.heap.size w2, w' = y9.w := fun x9 => last.Calls.on x9 (Nat.le_refl _) ((spec_l7Has sa s.2.2.length sc s.2.2 tx x9.w (hSz2.below x9.2)).mono (fun e w' h => ⟨h.1, h.2 ▸ Below.refl _ _⟩))
  have hLk : ∀ x9 : last.On w2.heap.size w2, Calls Try.prog 64 #[.slice (some ⟨gh, 0, none⟩) s.2.1.length ch, .slice a len cap] x9.w fun e w' => e = .returned (.bool (locked s.2.1 ops)) ∧ ∃ y9 : last.On w2.heap.size w2, w' = y9.w := fun x9 => last.Calls.on x9 (Nat.le_refl _) (spec_locked _ _ ch s.2.1 a len cap ops x9.w (hK2.held.below x9.2).sl (hSo2.below x9.2))
  have hMt : ∀ x9 : last.On w2.heap.size w2, Calls Try.prog 65 #[.slice (some ⟨gm, 0, none⟩) nm cm, .slice a len cap] x9.w fun e w' => e = .returned (.bool (meets s.1 ops)) ∧ ∃ y9 : last.On w2.heap.size w2, w' = y9.w := fun x9 => last.Calls.on x9 (Nat.le_refl _) (spec_meets _ nm cm s.1 a len cap ops x9.w (hK2.m.below x9.2).sl (hSo2.below x9.2))
  rw [h1] at hHas
  go_wp2_with fail
  refine last.wp_region_on w2.heap.size (by kernel_rfl) (by kernel_rfl) ?_
  repeat (go_big_quiet_step (first | (go_at_call 63; with_reducible exact hHas _) | (go_at_call 64; with_reducible exact hLk _) | (go_at_call 65; with_reducible exact hMt _)))
  refine wpQuiet_nil ?_
  intro w5 hw5
  obtain ⟨x5, hw5⟩ := hw5
  have hb5 : Below w2.heap.size w2 w5 := by rw [hw5]; exact x5.2
  clear hw5 x5 hinh2 o0 o1 o2 o3 o4 o5 hHas hLk hMt d0 d1 d2
  have hK5 := hK2.below hb5
  go_wp2_with fail
  go_ret
  exact ⟨rfl, hK5.bel⟩
set_option maxRecDepth 100000 in
set_option maxHeartbeats 4000000 in
theorem one_locked (w0 w : World) (X gm nm cm gh ch : Nat) (vs : Value) (s : St) (hs : List Value) (tx : Int) (a : Option Addr) (len cap : Nat) (ops : List Od)
    (hK : Kept w0 w X gm nm cm gh ch vs s hs) (hSo : SlO w a len ops) (hks : ∀ p ∈ ops, p.2.1.size ≤ 1099511627776) (hok : recOk (1, tx, ops) = true) (h1 : decide (tx ∈ s.2.2) = false) (h2 : locked s.2.1 ops = true) :
    Calls Try.prog 34 #[.pointer (some ⟨X, 0, none⟩), .agg #[.int .i64 1, .int .i64 tx, .slice a len cap]] w (OnePost w0 X none) := by
  obtain ⟨sa, sc, hvs, hSz⟩ := hK.seen.sl
  subst hvs
  obtain ⟨V, hV⟩ : ∃ V, V = w.alloc (.cells #[.int .i64 1, .int .i64 tx, .slice a len cap] 32) := ⟨_, rfl⟩
  have hbV : Below w.heap.size w V := by rw [hV]; exact (Below.refl _ _).alloc (Nat.le_refl _) _
  have hbx : BoxR w.heap.size 1 tx (.slice a len cap) V := by rw [hV]; exact boxR_new _ _ _ _
  have hKV := hK.below hbV
  have hXl := hKV.box.lt
  have hRl := hbx.lt
  have y1 := last.On.cell (B := V.heap.size) hKV.box.cells.2.1 hXl
  have y2 := last.On.cell (B := V.heap.size) hbx.cells.2.1 hRl
  have hAt : ∀ x9 : last.On V.heap.size V, Calls Try.prog 62 #[.slice (some ⟨gh, 0, none⟩) s.2.1.length ch, .int .i64 tx] x9.w fun e w' => e = .returned (.int .i64 (atRet (placeTx tx s.2.1))) ∧ ∃ y9 : last.On V.heap.size V, w' = y9.w := fun x9 => last.Calls.on x9 (Nat.le_refl _) ((spec_l8At _ _ ch s.2.1 tx x9.w (hKV.held.below x9.2).sl).mono (fun e w' h => ⟨h.1, h.2 ▸ Below.refl _ _⟩))
  have hinh := last.On.inh V.heap.size V
  have HV := Hid.mk' hV.symm
  clear hV
  generalize hP : atRet (placeTx tx s.2.1) = P at hAt
  go_enter Try.func34, Try.ntmps34
  go_wp2_with fail
  rw [HV.out]
  refine last.wp_region_on V.heap.size (by kernel_rfl) (by kernel_rfl) ?_
  repeat (go_big_quiet_step ((go_at_call 62; with_reducible exact hAt _)))
  refine wpQuiet_nil ?_
  intro w1 hw1
  obtain ⟨x1, hw1⟩ := hw1
  have hb1 : Below V.heap.size V w1 := by rw [hw1]; exact x1.2
  clear hw1 x1
  have hbx1 := hbx.below hb1
  have hK1 := hKV.below hb1
  have HOK := Hid.mk' (spec_recOk 1 tx a len cap ops w1 ((hSo.below hbV).below hb1) hks)
  obtain ⟨d0, d1, d2⟩ := hbx1.cells
  clear y1 y2 hAt hinh
  go_wp2_with fail
  refine HOK.out.mono ?_
  rintro e w2 ⟨rfl, hb2⟩
  rw [hok]
  have hK2 := hK1.below hb2
  have hbx2 := hbx1.below hb2
  have hSo2 := ((hSo.below hbV).below hb1).below hb2
  have hSz2 := ((hSz.below hbV).below hb1).below hb2
  clear d0 d1 d2 HOK HV hbx1 hbx hKV hXl hRl
  obtain ⟨d0, d1, d2⟩ := hbx2.cells
  have hX2 := hK2.box.lt
  have hR2 := hbx2.lt
  have o0 := last.On.cell (B := w2.heap.size) hK2.box.cells.1 hX2
  have o1 := last.On.cell (B := w2.heap.size) hK2.box.cells.2.1 hX2
  have o2 := last.On.cell (B := w2.heap.size) hK2.box.cells.2.2 hX2
  have o3 := last.On.cell (B := w2.heap.size) hbx2.cells.1 hR2
  have o4 := last.On.cell (B := w2.heap.size) hbx2.cells.2.1 hR2
  have o5 := last.On.cell (B := w2.heap.size) hbx2.cells.2.2 hR2
  have hinh2 := last.On.inh w2.heap.size w2
  have hHas : ∀ x9 : last.On w2.heap.size w2, Calls Try.prog 63 #[.slice sa s.2.2.length sc, .int .i64 tx] x9.w fun e w' => e = .returned (.bool (decide (tx ∈ s.2.2))) ∧ ∃ y9 : last.On w2.heap.size w2, w' = y9.w := fun x9 => last.Calls.on x9 (Nat.le_refl _) ((spec_l7Has sa s.2.2.length sc s.2.2 tx x9.w (hSz2.below x9.2)).mono (fun e w' h => ⟨h.1, h.2 ▸ Below.refl _ _⟩))
  have hLk : ∀ x9 : last.On w2.heap.size w2, Calls Try.prog 64 #[.slice (some ⟨gh, 0, none⟩) s.2.1.length ch, .slice a len cap] x9.w fun e w' => e = .returned (.bool (locked s.2.1 ops)) ∧ ∃ y9 : last.On w2.heap.size w2, w' = y9.w := fun x9 => last.Calls.on x9 (Nat.le_refl _) (spec_locked _ _ ch s.2.1 a len cap ops x9.w (hK2.held.below x9.2).sl (hSo2.below x9.2))
  have hMt : ∀ x9 : last.On w2.heap.size w2, Calls Try.prog 65 #[.slice (some ⟨gm, 0, none⟩) nm cm, .slice a len cap] x9.w fun e w' => e = .returned (.bool (meets s.1 ops)) ∧ ∃ y9 : last.On w2.heap.size w2, w' = y9.w := fun x9 => last.Calls.on x9 (Nat.le_refl _) (spec_meets _ nm cm s.1 a len cap ops x9.w (hK2.m.below x9.2).sl (hSo2.below x9.2))
  rw [h1] at hHas
  rw [h2] at hLk
  go_wp2_with fail
  refine last.wp_region_on w2.heap.size (by kernel_rfl) (by kernel_rfl) ?_
  repeat (go_big_quiet_step (first | (go_at_call 63; with_reducible exact hHas _) | (go_at_call 64; with_reducible exact hLk _) | (go_at_call 65; with_reducible exact hMt _)))
  refine wpQuiet_nil ?_
  intro w5 hw5
  obtain ⟨x5, hw5⟩ := hw5
  have hb5 : Below w2.heap.size w2 w5 := by rw [hw5]; exact x5.2
  clear hw5 x5 hinh2 o0 o1 o2 o3 o4 o5 hHas hLk hMt d0 d1 d2
  have hK5 := hK2.below hb5
  go_wp2_with fail
  go_ret
  exact ⟨rfl, hK5.bel⟩
set_option maxRecDepth 100000 in
set_option maxHeartbeats 4000000 in
theorem one_unmet (w0 w : World) (X gm nm cm gh ch : Nat) (vs : Value) (s : St) (hs : List Value) (tx : Int) (a : Option Addr) (len cap : Nat) (ops : List Od)
    (hK : Kept w0 w X gm nm cm gh ch vs s hs) (hSo : SlO w a len ops) (hks : ∀ p ∈ ops, p.2.1.size ≤ 1099511627776) (hok : recOk (1, tx, ops) = true) (h1 : decide (tx ∈ s.2.2) = false) (h2 : locked s.2.1 ops = false) (h3 : meets s.1 ops = false) :
    Calls Try.prog 34 #[.pointer (some ⟨X, 0, none⟩), .agg #[.int .i64 1, .int .i64 tx, .slice a len cap]] w (OnePost w0 X none) := by
  obtain ⟨sa, sc, hvs, hSz⟩ := hK.seen.sl
  subst hvs
  obtain ⟨V, hV⟩ : ∃ V, V = w.alloc (.cells #[.int .i64 1, .int .i64 tx, .slice a len cap] 32) := ⟨_, rfl⟩
  have hbV : Below w.heap.size w V := by rw [hV]; exact (Below.refl _ _).alloc (Nat.le_refl _) _
  have hbx : BoxR w.heap.size 1 tx (.slice a len cap) V := by rw [hV]; exact boxR_new _ _ _ _
  have hKV := hK.below hbV
  have hXl := hKV.box.lt
  have hRl := hbx.lt
  have y1 := last.On.cell (B := V.heap.size) hKV.box.cells.2.1 hXl
  have y2 := last.On.cell (B := V.heap.size) hbx.cells.2.1 hRl
  have hAt : ∀ x9 : last.On V.heap.size V, Calls Try.prog 62 #[.slice (some ⟨gh, 0, none⟩) s.2.1.length ch, .int .i64 tx] x9.w fun e w' => e = .returned (.int .i64 (atRet (placeTx tx s.2.1))) ∧ ∃ y9 : last.On V.heap.size V, w' = y9.w := fun x9 => last.Calls.on x9 (Nat.le_refl _) ((spec_l8At _ _ ch s.2.1 tx x9.w (hKV.held.below x9.2).sl).mono (fun e w' h => ⟨h.1, h.2 ▸ Below.refl _ _⟩))
  have hinh := last.On.inh V.heap.size V
  have HV := Hid.mk' hV.symm
  clear hV
  generalize hP : atRet (placeTx tx s.2.1) = P at hAt
  go_enter Try.func34, Try.ntmps34
  go_wp2_with fail
  rw [HV.out]
  refine last.wp_region_on V.heap.size (by kernel_rfl) (by kernel_rfl) ?_
  repeat (go_big_quiet_step ((go_at_call 62; with_reducible exact hAt _)))
  refine wpQuiet_nil ?_
  intro w1 hw1
  obtain ⟨x1, hw1⟩ := hw1
  have hb1 : Below V.heap.size V w1 := by rw [hw1]; exact x1.2
  clear hw1 x1
  have hbx1 := hbx.below hb1
  have hK1 := hKV.below hb1
  have HOK := Hid.mk' (spec_recOk 1 tx a len cap ops w1 ((hSo.below hbV).below hb1) hks)
  obtain ⟨d0, d1, d2⟩ := hbx1.cells
  clear y1 y2 hAt hinh
  go_wp2_with fail
  refine HOK.out.mono ?_
  rintro e w2 ⟨rfl, hb2⟩
  rw [hok]
  have hK2 := hK1.below hb2
  have hbx2 := hbx1.below hb2
  have hSo2 := ((hSo.below hbV).below hb1).below hb2
  have hSz2 := ((hSz.below hbV).below hb1).below hb2
  clear d0 d1 d2 HOK HV hbx1 hbx hKV hXl hRl
  obtain ⟨d0, d1, d2⟩ := hbx2.cells
  have hX2 := hK2.box.lt
  have hR2 := hbx2.lt
  have o0 := last.On.cell (B := w2.heap.size) hK2.box.cells.1 hX2
  have o1 := last.On.cell (B := w2.heap.size) hK2.box.cells.2.1 hX2
  have o2 := last.On.cell (B := w2.heap.size) hK2.box.cells.2.2 hX2
  have o3 := last.On.cell (B := w2.heap.size) hbx2.cells.1 hR2
  have o4 := last.On.cell (B := w2.heap.size) hbx2.cells.2.1 hR2
  have o5 := last.On.cell (B := w2.heap.size) hbx2.cells.2.2 hR2
  have hinh2 := last.On.inh w2.heap.size w2
  have hHas : ∀ x9 : last.On w2.heap.size w2, Calls Try.prog 63 #[.slice sa s.2.2.length sc, .int .i64 tx] x9.w fun e w' => e = .returned (.bool (decide (tx ∈ s.2.2))) ∧ ∃ y9 : last.On w2.heap.size w2, w' = y9.w := fun x9 => last.Calls.on x9 (Nat.le_refl _) ((spec_l7Has sa s.2.2.length sc s.2.2 tx x9.w (hSz2.below x9.2)).mono (fun e w' h => ⟨h.1, h.2 ▸ Below.refl _ _⟩))
  have hLk : ∀ x9 : last.On w2.heap.size w2, Calls Try.prog 64 #[.slice (some ⟨gh, 0, none⟩) s.2.1.length ch, .slice a len cap] x9.w fun e w' => e = .returned (.bool (locked s.2.1 ops)) ∧ ∃ y9 : last.On w2.heap.size w2, w' = y9.w := fun x9 => last.Calls.on x9 (Nat.le_refl _) (spec_locked _ _ ch s.2.1 a len cap ops x9.w (hK2.held.below x9.2).sl (hSo2.below x9.2))
  have hMt : ∀ x9 : last.On w2.heap.size w2, Calls Try.prog 65 #[.slice (some ⟨gm, 0, none⟩) nm cm, .slice a len cap] x9.w fun e w' => e = .returned (.bool (meets s.1 ops)) ∧ ∃ y9 : last.On w2.heap.size w2, w' = y9.w := fun x9 => last.Calls.on x9 (Nat.le_refl _) (spec_meets _ nm cm s.1 a len cap ops x9.w (hK2.m.below x9.2).sl (hSo2.below x9.2))
  rw [h1] at hHas
  rw [h2] at hLk
  rw [h3] at hMt
  go_wp2_with fail
  refine last.wp_region_on w2.heap.size (by kernel_rfl) (by kernel_rfl) ?_
  repeat (go_big_quiet_step (first | (go_at_call 63; with_reducible exact hHas _) | (go_at_call 64; with_reducible exact hLk _) | (go_at_call 65; with_reducible exact hMt _)))
  refine wpQuiet_nil ?_
  intro w5 hw5
  obtain ⟨x5, hw5⟩ := hw5
  have hb5 : Below w2.heap.size w2 w5 := by rw [hw5]; exact x5.2
  clear hw5 x5 hinh2 o0 o1 o2 o3 o4 o5 hHas hLk hMt d0 d1 d2
  have hK5 := hK2.below hb5
  go_wp2_with fail
  go_ret
  exact ⟨rfl, hK5.bel⟩
end Go.Proofs.Ytooiinicnkhlbaa.recs
