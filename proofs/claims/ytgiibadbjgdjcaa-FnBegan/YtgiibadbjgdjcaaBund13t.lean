/- Draws of orders that are right: some of them. Draws of any orders. -/
import Derived.Test.YtgiibadbjgdjcaaBund13s
namespace Go.Proofs.Ytgiibadbjgdjcaa.ords
open Go Go.RowKit Go.Proofs.Ytgiibadbjgdjcaa.base Go.Proofs.Ytgiibadbjgdjcaa.pairs Go.Proofs.Ytgiibadbjgdjcaa.draw
set_option linter.unusedVariables false
set_option linter.unusedSimpArgs false

theorem oneGo_has (o : Od) (l : List Od) : o ∈ oneGo o false l := by
  induction l with
  | nil => exact List.mem_singleton.2 rfl
  | cons p l ih =>
    rw [oneGo]
    cases hl : ltB p.2.1 o.2.1
    · exact List.mem_append.2 (.inl (List.mem_append.2 (.inl (by simp))))
    · exact List.mem_append.2 (.inr ih)
def GotOps (w0 w : World) (gc : Nat) (a : Option Addr) (len cap : Nat) (code : List UInt8) (e : Ending) (w' : World) : Prop :=
  ∃ (g n cp : Nat) (l : List Od), n ≤ 4 ∧ opsOk l = true ∧ e = .returned (.slice (some ⟨g, 0, none⟩) n cp) ∧ OwnO w' w.heap.size g n cp l ∧ Cur w0 w' gc a len cap code ∧ w.grownBy w' (some gc)
set_option maxRecDepth 100000 in
set_option maxHeartbeats 2000000 in
theorem d_ops (w0 w : World) (gc : Nat) (a : Option Addr) (len cap : Nat) (code : List UInt8) (h : Cur w0 w gc a len cap code) :
    Calls Try.prog 62 #[.pointer (some ⟨gc, 0, none⟩)] w fun e w' => GotOps w0 w gc a len cap code e w' := by
  have hba : Below w.heap.size w (w.alloc (.cells #[] 99)) := (Below.refl _ _).alloc (Nat.le_refl _) _
  have hcl := h.lt
  go_enter Try.func62, Try.ntmps62
  go_wp2_with fail
  refine (below_ w0 _ gc a len cap code _ (h.below hba) (by omega) (by omega)).mono ?_
  rintro e w1 ⟨x, hx, rfl, hc1, hg1⟩
  have hO1 : OwnO w1 w.heap.size w.heap.size 0 0 [] := (ownO_made w w.heap.size (Nat.le_refl _)).grown hg1 (by simp; omega)
  have hG1 : w.grownBy w1 (some gc) := grown_of_alloc hg1
  clear hg1 hba
  go_wp2_with fail
  go_loopw [3, 4] (fun v i wr => ∃ (k g n cp : Nat) (l : List Od), n + k ≤ 4 ∧ (1 ≤ k ∨ 1 ≤ n) ∧ i = .int .i64 (k : Int) ∧ v = .slice (some ⟨g, 0, none⟩) n cp ∧ (∀ p ∈ l, odOk p = true) ∧ RiseO l ∧ OwnO wr w.heap.size g n cp l ∧ Cur w0 wr gc a len cap code ∧ w.grownBy wr (some gc)) (fun _ i _ => (intOf i).toNat)
  case atStart => exact ⟨x + 1, w.heap.size, 0, 0, [], by omega, .inl (by omega), by go_num, rfl, (fun p hp => absurd hp List.not_mem_nil), List.Pairwise.nil, hO1, hc1, hG1⟩
  case round =>
    clear hO1 hc1 hG1
    obtain ⟨k, g, n, cp, l, hnk, hk1, rfl, rfl, hall, hri, hO, hC, hG⟩ := hrel
    by_cases hk0 : 0 < k
    · have hgne : g ≠ gc := by have := hO.lt; omega
      go_wp2_with fail
      refine (d_op1 w0 _ gc a len cap code hC).mono ?_
      rintro e w2 ⟨o, hok, rfl, hC2, hG2⟩
      have hO2 := hO.grown hG2 (by simpa using hgne)
      have hln := hO2.1
      go_wp2_with fail
      refine (spec_l7One _ n cp l o _ hO2.sl (odOk_small hok) (by omega)).mono ?_
      rintro e w4 ⟨g4, n4, cp4, rfl, hO4, hB4⟩
      have hpl := oneGo_length o false l
      have hhas := List.length_pos_of_mem (oneGo_has o l)
      simp at hpl
      have hn4 : n4 ≤ n + 1 ∧ 1 ≤ n4 := by have := hO4.1; omega
      have hC4 := hC2.below hB4
      have hG4 := grown_below (grownBy_trans hG hG2) hB4
      have hO5 := hO4.mono (base' := w.heap.size) (by have := hG.size; have := hG2.size; omega)
      have hall4 : ∀ p ∈ oneGo o false l, odOk p = true := fun p hp => by
        rcases oneGo_mem hp with h1 | rfl
        · exact hall p h1
        · exact hok
      have hri4 := oneGo_rise (o := o) hri
      generalize oneGo o false l = l4 at *
      clear hO hO2 hO4 hB4 hC hC2 hG hG2 hpl hhas hall hri
      go_wp2_with fail
      go_roundw
      case rel => exact ⟨k - 1, g4, n4, cp4, l4, by omega, .inr hn4.2, by go_num, rfl, hall4, hri4, hO5, hC4, hG4⟩
      case measure => simp [intOf]; omega
    · go_wp2_with fail
      go_ret
      have := hO.1
      exact ⟨g, n, cp, l, by omega, (opsOk_iff l).2 ⟨⟨hall, hri⟩, by omega, by omega⟩, rfl, hO, hC, hG⟩
end Go.Proofs.Ytgiibadbjgdjcaa.ords

namespace Go.Proofs.Ytgiibadbjgdjcaa.ords
open Go Go.RowKit Go.Proofs.Ytgiibadbjgdjcaa.base Go.Proofs.Ytgiibadbjgdjcaa.pairs Go.Proofs.Ytgiibadbjgdjcaa.draw
set_option linter.unusedVariables false
set_option linter.unusedSimpArgs false

def tinyO (o : Od) : Prop := 0 ≤ o.1 ∧ o.1 ≤ 5 ∧ o.2.1.size ≤ 13 ∧ o.2.2.size ≤ 21
theorem tinyO_ok {o : Od} (h : odOk o = true) : tinyO o := by
  obtain ⟨h1, _, h3, h4⟩ := (odOk_iff o).1 h
  have := keyOk_size h3
  exact ⟨by omega, by omega, by omega, by omega⟩
theorem tinyO_small {o : Od} (h : tinyO o) : smallO o := by
  obtain ⟨h1, h2, h3, h4⟩ := h
  exact ⟨WalkArith.wf_i64 (by omega), by unfold maxLen; omega, by unfold maxLen; omega⟩
theorem OwnO.none {w : World} {base g n cap : Nat} {l : List Od} (h : OwnO w base g n cap l) : OwnO w base g 0 cap [] := by
  refine ⟨rfl, fun p hp => absurd hp List.not_mem_nil, rfl, ?_⟩
  rcases h.2.2.2 with ⟨h', _⟩ | ⟨g', cap', cur, h', h0, hg, h1, h2, h3, h4⟩
  · simp at h'
  · simp only [Value.slice.injEq, Option.some.injEq, Addr.mk.injEq, and_true, true_and] at h'
    obtain ⟨rfl, rfl⟩ := h'
    exact .inr ⟨g, cap, cur, rfl, h0, hg, Nat.zero_le _, h2, h3, by simp [ordVals]⟩
def GotAnyO (w0 w : World) (gc : Nat) (a : Option Addr) (len cap : Nat) (code : List UInt8) (e : Ending) (w' : World) : Prop :=
  ∃ (g n cp : Nat) (l : List Od), n ≤ 5 ∧ (∀ p ∈ l, tinyO p) ∧ e = .returned (.slice (some ⟨g, 0, none⟩) n cp) ∧ OwnO w' w.heap.size g n cp l ∧ Cur w0 w' gc a len cap code ∧ w.grownBy w' (some gc)
theorem tiny_set {l : List Od} {i : Nat} {p : Od} (h : ∀ q ∈ l, tinyO q) (hp : tinyO p) : ∀ q ∈ l.set i p, tinyO q := by
  intro q hq
  rcases List.mem_or_eq_of_mem_set hq with h1 | h1
  · exact h q h1
  · subst h1; exact hp
set_option maxRecDepth 100000 in
set_option maxHeartbeats 2000000 in
theorem d_anyO (w0 w : World) (gc : Nat) (a : Option Addr) (len cap : Nat) (code : List UInt8) (h : Cur w0 w gc a len cap code) :
    Calls Try.prog 33 #[.pointer (some ⟨gc, 0, none⟩)] w fun e w' => GotAnyO w0 w gc a len cap code e w' := by
  obtain ⟨i0, hif, hz0, hz1, hz2⟩ := info_parts infoO
  obtain ⟨j0, hjf, hy0, hy1, hy2⟩ := info_parts info8
  have hcl := h.lt
  go_enter Try.func33, Try.ntmps33
  go_wp2_with fail
  refine (d_ops w0 _ gc a len cap code h).mono ?_
  rintro e w1 ⟨g, n, cp, l, hn, hok, rfl, hO1, hC1, hG1⟩
  obtain ⟨⟨hall, _⟩, hl1, hl8⟩ := (opsOk_iff l).1 hok
  have ht : Hid (∀ p ∈ l, tinyO p) := fun p hp => tinyO_ok (hall p hp)
  have hgne : g ≠ gc := by have := hO1.lt; omega
  clear hok hall
  go_wp2_with fail
  refine (below_ w0 _ gc a len cap code _ hC1 (by omega) (by omega)).mono ?_
  rintro e w2 ⟨x, hx, rfl, hC2, hG2⟩
  have hO2 := hO1.grown hG2 (by simpa using hgne)
  have hG2' := grownBy_trans hG1 hG2
  clear hO1 hC1 hG1 hG2
  have hln := hO2.1
  have hn0 : 0 < n := by omega
  have hl0 : 0 < l.length := by omega
  have hki : (0 : Int) < (n : Int) := by omega
  have hgc0 := hC2.ge
  have hwb := h.bel.size
  by_cases x0 : x = 0
  · subst x0
    go_wp2_with (at_builtin; fail)
    refine (d_op1 w0 _ gc a len cap code hC2).mono ?_
    rintro e w4 ⟨o, hok, rfl, hC4, hG4⟩
    have hO4 := hO2.grown hG4 (by simpa using hgne)
    have hG4' := grownBy_trans hG2' hG4
    have hbw : w.heap.size ≤ w4.heap.size := hG4'.size
    have hc3 : n + 1 ≤ maxLen := by unfold maxLen; omega
    have hc4 : (n + 1) * 40 ≤ 140737488355328 := by omega
    have hto := tinyO_ok hok
    clear hO2 hC2 hG2' hG4 hok
    go_wp2_with (at_builtin; refine wpList_append_own _ rfl (.tmp 10) (.tmp 13) 28 rfl w.heap.size 99 i0 (.agg #[.int .i64 0, .string ⟨#[]⟩, .string ⟨#[]⟩]) 3 40 Try.underlying28 hif hz0 hz1 hz2 rfl (by decide) _ _ _ rfl (hO4.2.2.alloc _) ⟨w4.heap.size, 0, none⟩ 1 1 (ordVals [o]) rfl rfl (one_ord_cells _ _ _) (ordVals_oneCell _) hc3 hc4 (le_alloc _ _ hbw) ?_)
    intro v5 w5 hown hgrow hnn
    obtain ⟨g5, cp5, hv, hO5⟩ := ownO_app hO4.1 hO4.2.1 (tinyO_small hto) hnn hown
    subst hv
    have hg5 : (w4.alloc (.cells #[.int .i64 o.1, .string o.2.1, .string o.2.2] 99)).grownBy w5 (some g) := hgrow
    have hC5 : Cur w0 w5 gc a len cap code := (hC4.below ((Below.refl _ _).alloc (Nat.le_refl _) _)).grown hg5 (by simpa using hgne.symm) (fun k e => by cases e; have := hO4.lt; omega)
    have hG5 : w.grownBy w5 (some gc) := grown_own (grown_alloc hG4' _) hg5 hO4.lt.1
    have ht5 : Hid (∀ p ∈ l ++ [o], tinyO p) := by
      intro p hp
      rcases List.mem_append.1 hp with h1 | h1
      · exact ht.out p h1
      · simp at h1; subst h1; exact hto
    have HO5 := Hid.mk' hO5
    clear hown hgrow hnn hO4 hC4 hG4' hg5 hO5
    go_wp2_with (at_builtin; fail)
    go_ret
    exact ⟨g5, n + 1, cp5, _, by omega, ht5.out, rfl, HO5.out, hC5, hG5⟩
  by_cases x1 : x = 1
  · subst x1
    go_wp2_with (at_builtin; fail)
    refine (below_ w0 _ gc a len cap code _ hC2 (by omega) (by omega)).mono ?_
    rintro e w4 ⟨y, hy, rfl, hC4, hG4⟩
    have hO4 := hO2.grown hG4 (by simpa using hgne)
    have hG4' := grownBy_trans hG2' hG4
    have d1 := hO4.kind 0 hl0
    have f1 := hO4.frozen (0 * 3)
    have R := hO4.setKind 0 hl0 (y : Int) (WalkArith.wf_i64 (by omega))
    have ht0 := ht.out _ (List.getElem_mem hl0)
    have HT : Hid (∀ p ∈ l.set 0 ((y : Int), l[0].2), tinyO p) := tiny_set ht.out ⟨by show (0 : Int) ≤ (y : Int); omega, by show (y : Int) ≤ 5; omega, ht0.2.2⟩
    simp only [Nat.zero_mul] at d1 f1 R
    have HC5 : Hid (Cur w0 (w4.setCell ⟨g, 0, none⟩ (.int .i64 (y : Int))) gc a len cap code) := hC4.grown R.2 (by simpa using hgne.symm) (fun k e => by cases e; have := hO4.lt; omega)
    have HG5 := Hid.mk' (grown_own hG4' R.2 hO4.lt.1)
    have HR := Hid.mk' R.1
    clear R hO2 hC2 hG2' hG4 hO4 hC4 hG4' ht0
    go_wp2_with (at_builtin; fail)
    go_ret
    exact ⟨g, n, cp, _, by omega, HT.out, rfl, HR.out, HC5.out, HG5.out⟩
  by_cases x2 : x = 2
  · subst x2
    go_wp2_with (at_builtin; fail)
    refine (d_keyAny w0 _ gc a len cap code hC2).mono ?_
    rintro e w4 ⟨y, hy, rfl, hC4, hG4⟩
    have hO4 := hO2.grown hG4 (by simpa using hgne)
    have hG4' := grownBy_trans hG2' hG4
    have d1 := hO4.key 0 hl0
    have f1 := hO4.frozen (0 * 3 + 1)
    have R := hO4.setKey 0 hl0 y (by unfold maxLen; omega)
    have ht0 := ht.out _ (List.getElem_mem hl0)
    have HT : Hid (∀ p ∈ l.set 0 (l[0].1, y, l[0].2.2), tinyO p) := tiny_set ht.out ⟨ht0.1, ht0.2.1, hy, ht0.2.2.2⟩
    simp only [Nat.zero_mul, Nat.zero_add] at d1 f1 R
    have HC5 : Hid (Cur w0 (w4.setCell ⟨g, 1, none⟩ (.string y)) gc a len cap code) := hC4.grown R.2 (by simpa using hgne.symm) (fun k e => by cases e; have := hO4.lt; omega)
    have HG5 := Hid.mk' (grown_own hG4' R.2 hO4.lt.1)
    have HR := Hid.mk' R.1
    clear R hO2 hC2 hG2' hG4 hO4 hC4 hG4' ht0
    go_wp2_with (at_builtin; fail)
    go_ret
    exact ⟨g, n, cp, _, by omega, HT.out, rfl, HR.out, HC5.out, HG5.out⟩
  by_cases x3 : x = 3
  · subst x3
    go_wp2_with (at_make; fail)
    refine (below_ w0 _ gc a len cap code _ hC2 (by omega) (by omega)).mono ?_
    rintro e w3 ⟨y, hy, rfl, hC3, hG3⟩
    have hO3 := hO2.grown hG3 (by simpa using hgne)
    have hG3' := grownBy_trans hG2' hG3
    clear hO2 hC2 hG2' hG3
    obtain ⟨m, hm⟩ : ∃ m : Nat, 20 + (y : Int) = (m : Int) := ⟨20 + y, by omega⟩
    have hm21 : m ≤ 21 := by omega
    go_wp2_with (at_make; refine wpList_make_full _ rfl _ _ 22 rfl w3.heap.size 5 j0 (.int .u8 0) 1 Try.underlying22 hjf hy0 hy1 _ _ _ _ m rfl rfl (by omega) (by omega) ?b2 ?b3 ?b4 ?_)
    case b2 => rw [hy2]; omega
    case b3 => unfold maxLen; omega
    case b4 => exact Nat.le_refl _
    intro w4 hown hgrow
    have hOb : Own w4 w3.heap.size w3.heap.size m m (List.replicate m 0) := by
      refine ⟨by simp, ?_⟩
      have e : byteVals (List.replicate m 0) = (madeCells #[.int .u8 0] m).toList := by
        simp [byteVals, toList_madeCells_one]
      rw [e]; simpa using hown
    have hcv := conv_own hOb
    have hB4 : Below w3.heap.size w3 w4 := (Below.refl _ _).grown hgrow (Nat.le_refl _) (fun k e => by cases e)
    have hO4 := hO3.below hB4
    have hC4 := hC3.below hB4
    have hG4 := grown_below hG3' hB4
    have d1 := hO4.val 0 hl0
    have f1 := hO4.frozen (0 * 3 + 2)
    have hzs : (⟨(List.replicate m (0 : UInt8)).toArray⟩ : ByteArray).size ≤ 21 := by show (List.replicate m (0 : UInt8)).toArray.size ≤ 21; simp; exact hm21
    have R := hO4.setVal 0 hl0 ⟨(List.replicate m (0 : UInt8)).toArray⟩ (max13 hzs)
    have ht0 := ht.out _ (List.getElem_mem hl0)
    have HT : Hid (∀ p ∈ l.set 0 (l[0].1, l[0].2.1, (⟨(List.replicate m (0 : UInt8)).toArray⟩ : ByteArray)), tinyO p) := tiny_set ht.out ⟨ht0.1, ht0.2.1, ht0.2.2.1, hzs⟩
    simp only [Nat.zero_mul, Nat.zero_add] at d1 f1 R
    have HC5 : Hid (Cur w0 (w4.setCell ⟨g, 2, none⟩ (.string ⟨(List.replicate m (0 : UInt8)).toArray⟩)) gc a len cap code) := hC4.grown R.2 (by simpa using hgne.symm) (fun k e => by cases e; have := hO4.lt; have := hC4.ge; omega)
    have HG5 := Hid.mk' (grown_own hG4 R.2 hO4.lt.1)
    have HR := Hid.mk' R.1
    clear R hown hgrow hOb hB4 hO3 hC3 hG3' hO4 hC4 hG4 ht0
    go_wp2_with (at_builtin; fail)
    go_ret
    exact ⟨g, n, cp, _, by omega, HT.out, rfl, HR.out, HC5.out, HG5.out⟩
  have e0 : ((x : Int) == 0) = false := by simp; omega
  have e1 : ((x : Int) == 1) = false := by simp; omega
  have e2 : ((x : Int) == 2) = false := by simp; omega
  have e3 : ((x : Int) == 3) = false := by simp; omega
  by_cases x4 : x = 4
  · subst x4
    have hO5 := hO2.none
    have hcc := hO2.cases
    unfold maxLen at hcc
    clear x0 x1 x2 x3 e0 e1 e2 e3
    go_wp2_with (at_builtin; fail)
    go_ret
    exact ⟨g, 0, cp, [], by omega, fun p hp => absurd hp List.not_mem_nil, rfl, hO5, hC2, hG2'⟩
  · have e4 : ((x : Int) == 4) = false := by simp; omega
    go_wp2_with (at_builtin; fail)
    go_ret
    exact ⟨g, n, cp, l, by omega, ht.out, rfl, hO2, hC2, hG2'⟩
end Go.Proofs.Ytgiibadbjgdjcaa.ords
