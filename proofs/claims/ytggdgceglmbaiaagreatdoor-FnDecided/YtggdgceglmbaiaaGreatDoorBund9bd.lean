/- Draws of any orders. Draws of any records. -/
import Derived.Test.YtggdgceglmbaiaaGreatDoorBund9bc
namespace Go.Proofs.YtggdgceglmbaiaaGreatDoor.ords
open Go Go.RowKit Go.Proofs.YtggdgceglmbaiaaGreatDoor.base Go.Proofs.YtggdgceglmbaiaaGreatDoor.pairs Go.Proofs.YtggdgceglmbaiaaGreatDoor.draw
set_option linter.unusedVariables false
set_option linter.unusedSimpArgs false

def tinyO (o : Od) : Prop := 0 ≤ o.1 ∧ o.1 ≤ 5 ∧ o.2.1.size ≤ 13 ∧ o.2.2.size ≤ 21
theorem tinyO_ok {o : Od} (h : odOk o = true) : tinyO o := by
  obtain ⟨h1, _, h3, h4⟩ := (odOk_iff o).1 h
  have := keyOk_size h3
  exact ⟨by omega, by omega, by omega, by omega⟩
theorem tinyO_small {o : Od} (h : tinyO o) : smallO o := by
  obtain ⟨h1, h2, h3, h4⟩ := h
  exact ⟨WalkArith.wf_i64 (by omega), by unfold maxLen; omega, by unfold maxLen; omega⟩
theorem OwnO.none {w : World} {base g n cap : Nat} {l : List Od} (h : OwnO w base g n cap l) : OwnO w base g 0 cap [] := by
  refine ⟨rfl, fun p hp => absurd hp List.not_mem_nil, rfl, ?_⟩
  rcases h.2.2.2 with ⟨h', _⟩ | ⟨g', cap', cur, h', h0, hg, h1, h2, h3, h4⟩
  · simp at h'
  · simp only [Value.slice.injEq, Option.some.injEq, Addr.mk.injEq, and_true, true_and] at h'
    obtain ⟨rfl, rfl⟩ := h'
    exact .inr ⟨g, cap, cur, rfl, h0, hg, Nat.zero_le _, h2, h3, by simp [ordVals]⟩
def GotAnyO (w0 w : World) (gc : Nat) (a : Option Addr) (len cap : Nat) (code : List UInt8) (e : Ending) (w' : World) : Prop :=
  ∃ (g n cp : Nat) (l : List Od), n ≤ 5 ∧ (∀ p ∈ l, tinyO p) ∧ e = .returned (.slice (some ⟨g, 0, none⟩) n cp) ∧ OwnO w' w.heap.size g n cp l ∧ Cur w0 w' gc a len cap code ∧ w.grownBy w' (some gc)
theorem tiny_set {l : List Od} {i : Nat} {p : Od} (h : ∀ q ∈ l, tinyO q) (hp : tinyO p) : ∀ q ∈ l.set i p, tinyO q := by
  intro q hq
  rcases List.mem_or_eq_of_mem_set hq with h1 | h1
  · exact h q h1
  · subst h1; exact hp
set_option maxRecDepth 100000 in
set_option maxHeartbeats 2000000 in
theorem d_anyO (w0 w : World) (gc : Nat) (a : Option Addr) (len cap : Nat) (code : List UInt8) (h : Cur w0 w gc a len cap code) :
    Calls Tryz.prog 60 #[.pointer (some ⟨gc, 0, none⟩)] w fun e w' => GotAnyO w0 w gc a len cap code e w' := by
  obtain ⟨i0, hif, hz0, hz1, hz2⟩ := info_parts infoO
  obtain ⟨j0, hjf, hy0, hy1, hy2⟩ := info_parts info8
  have hcl := h.lt
  go_enter Tryz.func60, Tryz.ntmps60
  go_wp2_with fail
  refine (d_ops w0 _ gc a len cap code h).mono ?_
  rintro e w1 ⟨g, n, cp, l, hn, hok, rfl, hO1, hC1, hG1⟩
  obtain ⟨⟨hall, _⟩, hl1, hl8⟩ := (opsOk_iff l).1 hok
  have ht : Hid (∀ p ∈ l, tinyO p) := fun p hp => tinyO_ok (hall p hp)
  have hgne : g ≠ gc := by have := hO1.lt; omega
  clear hok hall
  go_wp2_with fail
  refine (below_ w0 _ gc a len cap code _ hC1 (by omega) (by omega)).mono ?_
  rintro e w2 ⟨x, hx, rfl, hC2, hG2⟩
  have hO2 := hO1.grown hG2 (by simpa using hgne)
  have hG2' := grownBy_trans hG1 hG2
  clear hO1 hC1 hG1 hG2
  have hln := hO2.1
  have hn0 : 0 < n := by omega
  have hl0 : 0 < l.length := by omega
  have hki : (0 : Int) < (n : Int) := by omega
  have hgc0 := hC2.ge
  have hwb := h.bel.size
  by_cases x0 : x = 0
  · subst x0
    go_wp2_with (at_builtin; fail)
    refine (d_op1 w0 _ gc a len cap code hC2).mono ?_
    rintro e w4 ⟨o, hok, rfl, hC4, hG4⟩
    have hO4 := hO2.grown hG4 (by simpa using hgne)
    have hG4' := grownBy_trans hG2' hG4
    have hbw : w.heap.size ≤ w4.heap.size := hG4'.size
    have hc3 : n + 1 ≤ maxLen := by unfold maxLen; omega
    have hc4 : (n + 1) * 40 ≤ 140737488355328 := by omega
    have hto := tinyO_ok hok
    clear hO2 hC2 hG2' hG4 hok
    go_wp2_with (at_builtin; refine wpList_append_own _ rfl (.tmp 10) (.tmp 13) 34 rfl w.heap.size 65 i0 (.agg #[.int .i64 0, .string ⟨#[]⟩, .string ⟨#[]⟩]) 3 40 Tryz.underlying34 hif hz0 hz1 hz2 rfl (by decide) _ _ _ rfl (hO4.2.2.alloc _) ⟨w4.heap.size, 0, none⟩ 1 1 (ordVals [o]) rfl rfl (one_ord_cells _ _ _) (ordVals_oneCell _) hc3 hc4 (le_alloc _ _ hbw) ?_)
    intro v5 w5 hown hgrow hnn
    obtain ⟨g5, cp5, hv, hO5⟩ := ownO_app hO4.1 hO4.2.1 (tinyO_small hto) hnn hown
    subst hv
    have hg5 : (w4.alloc (.cells #[.int .i64 o.1, .string o.2.1, .string o.2.2] 65)).grownBy w5 (some g) := hgrow
    have hC5 : Cur w0 w5 gc a len cap code := (hC4.below ((Below.refl _ _).alloc (Nat.le_refl _) _)).grown hg5 (by simpa using hgne.symm) (fun k e => by cases e; have := hO4.lt; omega)
    have hG5 : w.grownBy w5 (some gc) := grown_own (grown_alloc hG4' _) hg5 hO4.lt.1
    have ht5 : Hid (∀ p ∈ l ++ [o], tinyO p) := by
      intro p hp
      rcases List.mem_append.1 hp with h1 | h1
      · exact ht.out p h1
      · simp at h1; subst h1; exact hto
    have HO5 := Hid.mk' hO5
    clear hown hgrow hnn hO4 hC4 hG4' hg5 hO5
    go_wp2_with (at_builtin; fail)
    go_ret
    exact ⟨g5, n + 1, cp5, _, by omega, ht5.out, rfl, HO5.out, hC5, hG5⟩
  by_cases x1 : x = 1
  · subst x1
    go_wp2_with (at_builtin; fail)
    refine (below_ w0 _ gc a len cap code _ hC2 (by omega) (by omega)).mono ?_
    rintro e w4 ⟨y, hy, rfl, hC4, hG4⟩
    have hO4 := hO2.grown hG4 (by simpa using hgne)
    have hG4' := grownBy_trans hG2' hG4
    have d1 := hO4.kind 0 hl0
    have f1 := hO4.frozen (0 * 3)
    have R := hO4.setKind 0 hl0 (y : Int) (WalkArith.wf_i64 (by omega))
    have ht0 := ht.out _ (List.getElem_mem hl0)
    have HT : Hid (∀ p ∈ l.set 0 ((y : Int), l[0].2), tinyO p) := tiny_set ht.out ⟨by show (0 : Int) ≤ (y : Int); omega, by show (y : Int) ≤ 5; omega, ht0.2.2⟩
    simp only [Nat.zero_mul] at d1 f1 R
    have HC5 : Hid (Cur w0 (w4.setCell ⟨g, 0, none⟩ (.int .i64 (y : Int))) gc a len cap code) := hC4.grown R.2 (by simpa using hgne.symm) (fun k e => by cases e; have := hO4.lt; omega)
    have HG5 := Hid.mk' (grown_own hG4' R.2 hO4.lt.1)
    have HR := Hid.mk' R.1
    clear R hO2 hC2 hG2' hG4 hO4 hC4 hG4' ht0
    go_wp2_with (at_builtin; fail)
    go_ret
    exact ⟨g, n, cp, _, by omega, HT.out, rfl, HR.out, HC5.out, HG5.out⟩
  by_cases x2 : x = 2
  · subst x2
    go_wp2_with (at_builtin; fail)
    refine (d_keyAny w0 _ gc a len cap code hC2).mono ?_
    rintro e w4 ⟨y, hy, rfl, hC4, hG4⟩
    have hO4 := hO2.grown hG4 (by simpa using hgne)
    have hG4' := grownBy_trans hG2' hG4
    have d1 := hO4.key 0 hl0
    have f1 := hO4.frozen (0 * 3 + 1)
    have R := hO4.setKey 0 hl0 y (by unfold maxLen; omega)
    have ht0 := ht.out _ (List.getElem_mem hl0)
    have HT : Hid (∀ p ∈ l.set 0 (l[0].1, y, l[0].2.2), tinyO p) := tiny_set ht.out ⟨ht0.1, ht0.2.1, hy, ht0.2.2.2⟩
    simp only [Nat.zero_mul, Nat.zero_add] at d1 f1 R
    have HC5 : Hid (Cur w0 (w4.setCell ⟨g, 1, none⟩ (.string y)) gc a len cap code) := hC4.grown R.2 (by simpa using hgne.symm) (fun k e => by cases e; have := hO4.lt; omega)
    have HG5 := Hid.mk' (grown_own hG4' R.2 hO4.lt.1)
    have HR := Hid.mk' R.1
    clear R hO2 hC2 hG2' hG4 hO4 hC4 hG4' ht0
    go_wp2_with (at_builtin; fail)
    go_ret
    exact ⟨g, n, cp, _, by omega, HT.out, rfl, HR.out, HC5.out, HG5.out⟩
  by_cases x3 : x = 3
  · subst x3
    go_wp2_with (at_make; fail)
    refine (below_ w0 _ gc a len cap code _ hC2 (by omega) (by omega)).mono ?_
    rintro e w3 ⟨y, hy, rfl, hC3, hG3⟩
    have hO3 := hO2.grown hG3 (by simpa using hgne)
    have hG3' := grownBy_trans hG2' hG3
    clear hO2 hC2 hG2' hG3
    obtain ⟨m, hm⟩ : ∃ m : Nat, 20 + (y : Int) = (m : Int) := ⟨20 + y, by omega⟩
    have hm21 : m ≤ 21 := by omega
    go_wp2_with (at_make; refine wpList_make_full _ rfl _ _ 22 rfl w3.heap.size 5 j0 (.int .u8 0) 1 Tryz.underlying22 hjf hy0 hy1 _ _ _ _ m rfl rfl (by omega) (by omega) ?b2 ?b3 ?b4 ?_)
    case b2 => rw [hy2]; omega
    case b3 => unfold maxLen; omega
    case b4 => exact Nat.le_refl _
    intro w4 hown hgrow
    have hOb : Own w4 w3.heap.size w3.heap.size m m (List.replicate m 0) := by
      refine ⟨by simp, ?_⟩
      have e : byteVals (List.replicate m 0) = (madeCells #[.int .u8 0] m).toList := by
        simp [byteVals, toList_madeCells_one]
      rw [e]; simpa using hown
    have hcv := conv_own hOb
    have hB4 : Below w3.heap.size w3 w4 := (Below.refl _ _).grown hgrow (Nat.le_refl _) (fun k e => by cases e)
    have hO4 := hO3.below hB4
    have hC4 := hC3.below hB4
    have hG4 := grown_below hG3' hB4
    have d1 := hO4.val 0 hl0
    have f1 := hO4.frozen (0 * 3 + 2)
    have hzs : (⟨(List.replicate m (0 : UInt8)).toArray⟩ : ByteArray).size ≤ 21 := by show (List.replicate m (0 : UInt8)).toArray.size ≤ 21; simp; exact hm21
    have R := hO4.setVal 0 hl0 ⟨(List.replicate m (0 : UInt8)).toArray⟩ (max13 hzs)
    have ht0 := ht.out _ (List.getElem_mem hl0)
    have HT : Hid (∀ p ∈ l.set 0 (l[0].1, l[0].2.1, (⟨(List.replicate m (0 : UInt8)).toArray⟩ : ByteArray)), tinyO p) := tiny_set ht.out ⟨ht0.1, ht0.2.1, ht0.2.2.1, hzs⟩
    simp only [Nat.zero_mul, Nat.zero_add] at d1 f1 R
    have HC5 : Hid (Cur w0 (w4.setCell ⟨g, 2, none⟩ (.string ⟨(List.replicate m (0 : UInt8)).toArray⟩)) gc a len cap code) := hC4.grown R.2 (by simpa using hgne.symm) (fun k e => by cases e; have := hO4.lt; have := hC4.ge; omega)
    have HG5 := Hid.mk' (grown_own hG4 R.2 hO4.lt.1)
    have HR := Hid.mk' R.1
    clear R hown hgrow hOb hB4 hO3 hC3 hG3' hO4 hC4 hG4 ht0
    go_wp2_with (at_builtin; fail)
    go_ret
    exact ⟨g, n, cp, _, by omega, HT.out, rfl, HR.out, HC5.out, HG5.out⟩
  have e0 : ((x : Int) == 0) = false := by simp; omega
  have e1 : ((x : Int) == 1) = false := by simp; omega
  have e2 : ((x : Int) == 2) = false := by simp; omega
  have e3 : ((x : Int) == 3) = false := by simp; omega
  by_cases x4 : x = 4
  · subst x4
    have hO5 := hO2.none
    have hcc := hO2.cases
    unfold maxLen at hcc
    clear x0 x1 x2 x3 e0 e1 e2 e3
    go_wp2_with (at_builtin; fail)
    go_ret
    exact ⟨g, 0, cp, [], by omega, fun p hp => absurd hp List.not_mem_nil, rfl, hO5, hC2, hG2'⟩
  · have e4 : ((x : Int) == 4) = false := by simp; omega
    go_wp2_with (at_builtin; fail)
    go_ret
    exact ⟨g, n, cp, l, by omega, ht.out, rfl, hO2, hC2, hG2'⟩
end Go.Proofs.YtggdgceglmbaiaaGreatDoor.ords

namespace Go.Proofs.YtggdgceglmbaiaaGreatDoor.recs
open Go Go.RowKit Go.Proofs.YtggdgceglmbaiaaGreatDoor.base Go.Proofs.YtggdgceglmbaiaaGreatDoor.pairs Go.Proofs.YtggdgceglmbaiaaGreatDoor.draw Go.Proofs.YtggdgceglmbaiaaGreatDoor.ords
set_option linter.unusedVariables false
set_option linter.unusedSimpArgs false

def tinyR (r : Rc) : Prop := (0 ≤ r.1 ∧ r.1 ≤ 5) ∧ (0 ≤ r.2.1 ∧ r.2.1 ≤ 1000001) ∧ r.2.2.length ≤ 8 ∧ ∀ p ∈ r.2.2, tinyO p
theorem tinyR_ok {r : Rc} (h : recOk r = true) : tinyR r := by
  obtain ⟨h1, h2⟩ := (recOk_iff r).1 h
  have hk : 1 ≤ r.1 ∧ r.1 ≤ 3 := by rcases h2 with ⟨h3, _⟩ | ⟨h3, _⟩ <;> omega
  refine ⟨by omega, by omega, ?_, ?_⟩
  · rcases h2 with ⟨_, h3⟩ | ⟨_, h3⟩
    · exact ((opsOk_iff _).1 h3).2.2
    · rw [h3]; simp
  · intro p hp
    rcases h2 with ⟨_, h3⟩ | ⟨_, h3⟩
    · exact tinyO_ok (((opsOk_iff _).1 h3).1.1 p hp)
    · rw [h3] at hp; exact absurd hp List.not_mem_nil
def GotAnyR (w0 w : World) (gc : Nat) (a : Option Addr) (len cap : Nat) (code : List UInt8) (e : Ending) (w' : World) : Prop :=
  ∃ (r : Rc) (v : Value), tinyR r ∧ e = .returned (.agg #[.int .i64 r.1, .int .i64 r.2.1, v]) ∧ OwnV w' w.heap.size v r.2.2 ∧ Cur w0 w' gc a len cap code ∧ w.grownBy w' (some gc)
set_option maxRecDepth 100000 in
set_option maxHeartbeats 2000000 in
theorem d_anyR (w0 w : World) (gc : Nat) (a : Option Addr) (len cap : Nat) (code : List UInt8) (h : Cur w0 w gc a len cap code) :
    Calls Tryz.prog 35 #[.pointer (some ⟨gc, 0, none⟩)] w fun e w' => GotAnyR w0 w gc a len cap code e w' := by
  have hcl := h.lt
  have hge := h.ge
  obtain ⟨wa, hwa⟩ : ∃ wa, w.alloc (.cells #[.int .i64 0, .int .i64 0, .slice none 0 0] 36) = wa := ⟨_, rfl⟩
  have hba : Below w.heap.size w wa := by rw [← hwa]; exact (Below.refl _ _).alloc (Nat.le_refl _) _
  have hsa : wa.heap.size = w.heap.size + 1 := by rw [← hwa]; simp
  have hRa : V3 wa w.heap.size 36 (.int .i64 0) (.int .i64 0) (.slice none 0 0) := by rw [← hwa]; exact heap_alloc_new w _
  have HWA := Hid.mk' hwa
  clear hwa
  go_enter Tryz.func35, Tryz.ntmps35
  go_wp2_with fail
  rw [HWA.out]
  clear HWA
  refine (d_rec w0 _ gc a len cap code (h.below hba)).mono ?_
  rintro e w1 ⟨⟨k, t, l⟩, v, hok, rfl, hv1, hc1, hg1⟩
  have ht0 := tinyR_ok hok
  have hka : 0 ≤ k ∧ k ≤ 5 := ht0.1
  have hta : 0 ≤ t ∧ t ≤ 1000001 := ht0.2.1
  have hla : l.length ≤ 8 := ht0.2.2.1
  have HTO : Hid (∀ p ∈ l, tinyO p) := ht0.2.2.2
  have hv1 : OwnV w1 wa.heap.size v l := hv1
  obtain ⟨pa, pc, hv, _, _⟩ := hv1.sl
  obtain ⟨n, hn⟩ : ∃ n, l.length = n := ⟨_, rfl⟩
  rw [hn] at hv
  subst hv
  have hne : ∀ g, (Value.slice pa n pc).ownBlock = some g → w.heap.size < g ∧ g < w1.heap.size := fun g e => by have := hv1.lt g e; omega
  have hR1 := v3_grown hRa hg1 (by simp; omega)
  have hG1 : w.grownBy w1 (some gc) := grownBy_trans (grown_below (World.grownBy.refl _ _) hba) hg1
  have hs1 : w.heap.size < w1.heap.size := hR1.lt
  obtain ⟨wb, hwb⟩ : ∃ wb, w1.alloc (.cells #[.int .i64 k, .int .i64 t, .slice pa n pc] 36) = wb := ⟨_, rfl⟩
  have hbb : Below w1.heap.size w1 wb := by rw [← hwb]; exact (Below.refl _ _).alloc (Nat.le_refl _) _
  have hVb : V3 wb w1.heap.size 36 (.int .i64 k) (.int .i64 t) (.slice pa n pc) := by rw [← hwb]; exact heap_alloc_new w1 _
  have hcb := hc1.below hbb
  have HBL := Hid.mk' (below_ w0 wb gc a len cap code 8 hcb (by omega) (by omega))
  rw [← hwb] at HBL
  have HWB := Hid.mk' hwb
  have hRb := hR1.below hbb
  have hOb := hv1.below hbb
  have hGb := grown_below hG1 hbb
  clear hwb hR1 hG1 hv1 hc1 hg1 hba hRa hok ht0 hcb
  go_wp2_with fail
  refine HBL.out.mono ?_
  rw [HWB.out]
  rintro e w2 ⟨x, hx, rfl, hc2, hg2⟩
  have hV2 := v3_grown hVb hg2 (by simp; omega)
  have hR2 := v3_grown hRb hg2 (by simp; omega)
  have hO2 := hOb.grown hg2 (.inr fun e => by have := hne _ e; omega)
  have hG2 := grownBy_trans hGb hg2
  have hs2 : w1.heap.size < w2.heap.size := hV2.lt
  clear HBL HWB hVb hRb hOb hGb hg2 hbb
  by_cases x0 : x = 0
  · subst x0
    go_wp2_with fail
    refine (below_ w0 _ gc a len cap code _ hc2 (by omega) (by omega)).mono ?_
    rintro e w3 ⟨y, hy, rfl, hc3, hg3⟩
    have hV3 := v3_grown hV2 hg3 (by simp; omega)
    have hR3 := v3_grown hR2 hg3 (by simp; omega)
    have hO3 := hO2.grown hg3 (.inr fun e => by have := hne _ e; omega)
    have hG3 := grownBy_trans hG2 hg3
    have HT : Hid (tinyR ((y : Int), t, l)) := ⟨⟨by show (0 : Int) ≤ (y : Int); omega, by show (y : Int) ≤ 5; omega⟩, hta, hla, HTO.out⟩
    clear hV2 hR2 hO2 hG2 hc2 hg3
    have t0 := hV3.c0
    have t1 := hV3.c1
    have t2 := hV3.c2
    have t3 := v3_fz hV3 0
    have hset := (v3_set hV3).1 (.int .i64 (y : Int))
    have hR6 := v3_grown hR3 hset.2 (by simp; omega)
    have hc6 := hc3.grown hset.2 (by simp; omega) (fun k e => by cases e; omega)
    have hG6 := grown_own hG3 hset.2 (by omega)
    have hO6 := hO3.grown hset.2 (.inr fun e => by have := hne _ e; omega)
    have r0 := hR3.c0
    have q0 := v3_fz hR3 0
    have r1 := hR3.c1
    have q1 := v3_fz hR3 1
    have r2 := hR3.c2
    have q2 := v3_fz hR3 2
    have hfin := (v3_all hR6 (.int .i64 (y : Int)) (.int .i64 t) (.slice pa n pc)).2
    have HCz := Hid.mk' (hc6.grown hfin (by simp; omega) (fun k e => by cases e; omega))
    have HGz := Hid.mk' (grown_own hG6 hfin (Nat.le_refl _))
    have HOz := Hid.mk' ((hO6.grown hfin (.inr fun e => by have := hne _ e; omega)).mono (base' := w.heap.size) (by omega))
    have hnn : w.heap.size ≠ w1.heap.size := by omega
    clear hfin hc6 hG6 hR6 hO6 hV3 hR3 hc3 hG3 hO3 hne  hset
    go_wp2_with fail
    refine bodyPost_ret (v := .agg #[.int .i64 (y : Int), .int .i64 t, .slice pa n pc]) ?_ rfl ⟨((y : Int), t, l), _, HT.out, rfl, HOz.out, HCz.out, HGz.out⟩
    simp [results, Tryz.results35, go_sem, r0, r1, r2]
  by_cases x1 : x = 1
  · subst x1
    obtain ⟨w4, hw4⟩ : ∃ w4, w2.alloc (.cells #[.int .i64 0, .int .i64 1000000, .int .i64 1000001] 3) = w4 := ⟨_, rfl⟩
    have hb4 : Below w2.heap.size w2 w4 := by rw [← hw4]; exact (Below.refl _ _).alloc (Nat.le_refl _) _
    have hL4 : w4.heap[w2.heap.size]? = some (.cells #[.int .i64 0, .int .i64 1000000, .int .i64 1000001] 3) := by rw [← hw4]; exact heap_alloc_new w2 _
    have HIN := Hid.mk' (int_ w0 w4 gc a len cap code w2.heap.size 3 3 _ _ (hc2.below hb4) hL4 rfl (by omega) (by omega) (by omega) (fun z => decide (0 ≤ z ∧ z ≤ 1000001) = true) (some_atI _ 3 (fun z => decide (0 ≤ z ∧ z ≤ 1000001)) (by kernel_rfl)))
    rw [← hw4] at HIN
    have HW4 := Hid.mk' hw4
    clear hw4 hL4
    go_wp2_with fail
    refine HIN.out.mono ?_
    rw [HW4.out]
    rintro e w3 ⟨z, hz, rfl, hc3, hg3⟩
    have hz' := of_decide_eq_true hz
    have hV3 := v3_grown (hV2.below hb4) hg3 (by simp; omega)
    have hR3 := v3_grown (hR2.below hb4) hg3 (by simp; omega)
    have hO3 := (hO2.below hb4).grown hg3 (.inr fun e => by have := hne _ e; omega)
    have hG3 := grownBy_trans (grown_below hG2 hb4) hg3
    have HT : Hid (tinyR (k, z, l)) := ⟨hka, hz', hla, HTO.out⟩
    clear hV2 hR2 hO2 hG2 hc2 hg3 HIN HW4 hb4 hz
    have t0 := hV3.c0
    have t1 := hV3.c1
    have t2 := hV3.c2
    have t3 := v3_fz hV3 1
    have hset := (v3_set hV3).2.1 (.int .i64 z)
    have hR6 := v3_grown hR3 hset.2 (by simp; omega)
    have hc6 := hc3.grown hset.2 (by simp; omega) (fun k e => by cases e; omega)
    have hG6 := grown_own hG3 hset.2 (by omega)
    have hO6 := hO3.grown hset.2 (.inr fun e => by have := hne _ e; omega)
    have r0 := hR3.c0
    have q0 := v3_fz hR3 0
    have r1 := hR3.c1
    have q1 := v3_fz hR3 1
    have r2 := hR3.c2
    have q2 := v3_fz hR3 2
    have hfin := (v3_all hR6 (.int .i64 k) (.int .i64 z) (.slice pa n pc)).2
    have HCz := Hid.mk' (hc6.grown hfin (by simp; omega) (fun k e => by cases e; omega))
    have HGz := Hid.mk' (grown_own hG6 hfin (Nat.le_refl _))
    have HOz := Hid.mk' ((hO6.grown hfin (.inr fun e => by have := hne _ e; omega)).mono (base' := w.heap.size) (by omega))
    have hnn : w.heap.size ≠ w1.heap.size := by omega
    clear hfin hc6 hG6 hR6 hO6 hV3 hR3 hc3 hG3 hO3 hne  hset
    go_wp2_with fail
    refine bodyPost_ret (v := .agg #[.int .i64 k, .int .i64 z, .slice pa n pc]) ?_ rfl ⟨(k, z, l), _, HT.out, rfl, HOz.out, HCz.out, HGz.out⟩
    simp [results, Tryz.results35, go_sem, r0, r1, r2]
  by_cases x2 : x = 2
  · subst x2
    go_wp2_with fail
    refine (d_anyO w0 _ gc a len cap code hc2).mono ?_
    rintro e w3 ⟨g, m, cp, l3, hm, htt, rfl, hOo, hc3, hg3⟩
    have hV3 := v3_grown hV2 hg3 (by simp; omega)
    have hR3 := v3_grown hR2 hg3 (by simp; omega)
    have hG3 := grownBy_trans hG2 hg3
    have hgl := hOo.lt
    have HT : Hid (tinyR (k, t, l3)) := ⟨hka, hta, by show l3.length ≤ 8; have := hOo.1; omega, htt⟩
    have hO3 := ownV_of hOo
    have hne : ∀ g', (Value.slice (some ⟨g, 0, none⟩) m cp).ownBlock = some g' → w1.heap.size < g' := fun g' e => by cases e; show w1.heap.size < g; omega
    clear hV2 hR2 hO2 hG2 hc2 hg3 htt hOo
    have t0 := hV3.c0
    have t1 := hV3.c1
    have t2 := hV3.c2
    have t3 := v3_fz hV3 2
    have hset := (v3_set hV3).2.2 (.slice (some ⟨g, 0, none⟩) m cp)
    have hR6 := v3_grown hR3 hset.2 (by simp; omega)
    have hc6 := hc3.grown hset.2 (by simp; omega) (fun k e => by cases e; omega)
    have hG6 := grown_own hG3 hset.2 (by omega)
    have hO6 := hO3.grown hset.2 (.inr fun e => by have := hne _ e; omega)
    have r0 := hR3.c0
    have q0 := v3_fz hR3 0
    have r1 := hR3.c1
    have q1 := v3_fz hR3 1
    have r2 := hR3.c2
    have q2 := v3_fz hR3 2
    have hfin := (v3_all hR6 (.int .i64 k) (.int .i64 t) (.slice (some ⟨g, 0, none⟩) m cp)).2
    have HCz := Hid.mk' (hc6.grown hfin (by simp; omega) (fun k e => by cases e; omega))
    have HGz := Hid.mk' (grown_own hG6 hfin (Nat.le_refl _))
    have HOz := Hid.mk' ((hO6.grown hfin (.inr fun e => by have := hne _ e; omega)).mono (base' := w.heap.size) (by omega))
    have hnn : w.heap.size ≠ w1.heap.size := by omega
    clear hfin hc6 hG6 hR6 hO6 hV3 hR3 hc3 hG3 hO3 hne  hset
    go_wp2_with fail
    refine bodyPost_ret (v := .agg #[.int .i64 k, .int .i64 t, .slice (some ⟨g, 0, none⟩) m cp]) ?_ rfl ⟨(k, t, l3), _, HT.out, rfl, HOz.out, HCz.out, HGz.out⟩
    simp [results, Tryz.results35, go_sem, r0, r1, r2]
  · have y0 : ¬ (x : Int) = 0 := by omega
    have y1 : ¬ (x : Int) = 1 := by omega
    have y2 : ¬ (x : Int) = 2 := by omega
    have z0 : ((x : Int) == 0) = false := beq_eq_false_iff_ne.2 y0
    have z1 : ((x : Int) == 1) = false := beq_eq_false_iff_ne.2 y1
    have z2 : ((x : Int) == 2) = false := beq_eq_false_iff_ne.2 y2
    have HT : Hid (tinyR (k, t, l)) := ⟨hka, hta, hla, HTO.out⟩
    have t0 := hV2.c0
    have t1 := hV2.c1
    have t2 := hV2.c2
    have hR6 := hR2
    have hc6 := hc2
    have hG6 := hG2
    have hO6 := hO2
    have r0 := hR2.c0
    have q0 := v3_fz hR2 0
    have r1 := hR2.c1
    have q1 := v3_fz hR2 1
    have r2 := hR2.c2
    have q2 := v3_fz hR2 2
    have hfin := (v3_all hR6 (.int .i64 k) (.int .i64 t) (.slice pa n pc)).2
    have HCz := Hid.mk' (hc6.grown hfin (by simp; omega) (fun k e => by cases e; omega))
    have HGz := Hid.mk' (grown_own hG6 hfin (Nat.le_refl _))
    have HOz := Hid.mk' ((hO6.grown hfin (.inr fun e => by have := hne _ e; omega)).mono (base' := w.heap.size) (by omega))
    have hnn : w.heap.size ≠ w1.heap.size := by omega
    clear hfin hc6 hG6 hR6 hO6 hV2 hR2 hc2 hG2 hO2 hne 
    go_wp2_with fail
    refine bodyPost_ret (v := .agg #[.int .i64 k, .int .i64 t, .slice pa n pc]) ?_ rfl ⟨(k, t, l), _, HT.out, rfl, HOz.out, HCz.out, HGz.out⟩
    simp [results, Tryz.results35, go_sem, r0, r1, r2]
def GotR (w : World) (e : Ending) (w' : World) : Prop :=
  ∃ (r : Rc) (v : Value), tinyR r ∧ e = .returned (.agg #[.int .i64 r.1, .int .i64 r.2.1, v]) ∧ OwnV w' w.heap.size v r.2.2 ∧ Below w.heap.size w w'
end Go.Proofs.YtggdgceglmbaiaaGreatDoor.recs
