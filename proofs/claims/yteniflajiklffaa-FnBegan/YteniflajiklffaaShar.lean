/- Draws of orders that are right. Draws of orders that are right: some of them. Draws of any orders. A region that draws its order, whose last operation waits for an operation only through others. No function of the program is named here. -/
import Derived.Test.YteniflajiklffaaShaq
import Derived.Test.YteniflajiklffaaShag
namespace Go.Proofs.Yteniflajiklffaa.ords
open Go Go.RowKit Go.Proofs.Yteniflajiklffaa.base Go.Proofs.Yteniflajiklffaa.pairs Go.Proofs.Yteniflajiklffaa.draw
set_option linter.unusedVariables false
set_option linter.unusedSimpArgs false

theorem some_atI (zs : Array Value) (n : Nat) (f : Int → Bool) (h : (List.range n).all (fun i => match zs[i]? with | some (.int .i64 z) => f z | _ => false) = true) : ∀ i, i < n → ∃ z, zs[i]? = some (.int .i64 z) ∧ f z = true := by
  intro i hi
  have := List.all_eq_true.1 h i (List.mem_range.2 hi)
  split at this
  · rename_i z hz; exact ⟨z, hz, this⟩
  · cases this
def GotOd (w0 w : World) (gc : Nat) (a : Option Addr) (len cap : Nat) (code : List UInt8) (e : Ending) (w' : World) : Prop :=
  ∃ o : Od, odOk o = true ∧ e = .returned (.agg #[.int .i64 o.1, .string o.2.1, .string o.2.2]) ∧ Cur w0 w' gc a len cap code ∧ w.grownBy w' (some gc)
theorem odOk_small {o : Od} (h : odOk o = true) : smallO o := by
  obtain ⟨h1, _, h3, h4⟩ := (odOk_iff o).1 h
  have := keyOk_size h3
  exact ⟨WalkArith.wf_i64 (by omega), by unfold maxLen; omega, by unfold maxLen; omega⟩
set_option maxRecDepth 100000 in
set_option maxHeartbeats 2000000 in
theorem d_op1 (w0 w : World) (gc : Nat) (a : Option Addr) (len cap : Nat) (code : List UInt8) (h : Cur w0 w gc a len cap code) :
    Calls Try.prog 56 #[.pointer (some ⟨gc, 0, none⟩)] w fun e w' => GotOd w0 w gc a len cap code e w' := by
  have hcl := h.lt
  have hge := h.ge
  obtain ⟨wa, hwa⟩ : ∃ wa, w.alloc (.cells #[.int .i64 0, .string ⟨#[]⟩, .string ⟨#[]⟩] 111) = wa := ⟨_, rfl⟩
  have hba : Below w.heap.size w wa := by rw [← hwa]; exact (Below.refl _ _).alloc (Nat.le_refl _) _
  have hsa : wa.heap.size = w.heap.size + 1 := by rw [← hwa]; simp
  have hRa : V3 wa w.heap.size 111 (.int .i64 0) (.string ⟨#[]⟩) (.string ⟨#[]⟩) := by rw [← hwa]; exact heap_alloc_new w _
  have HWA := Hid.mk' hwa
  clear hwa
  go_enter Try.func56, Try.ntmps56
  go_wp2_with fail
  rw [HWA.out]
  clear HWA
  have hbb : Below wa.heap.size wa (wa.alloc (.cells #[.int .i64 1, .int .i64 1, .int .i64 1, .int .i64 2, .int .i64 3] 3)) := (Below.refl _ _).alloc (Nat.le_refl _) _
  have hL := heap_alloc_new wa (.cells #[.int .i64 1, .int .i64 1, .int .i64 1, .int .i64 2, .int .i64 3] 3)
  rw [hsa] at hL
  refine (int_ w0 _ gc a len cap code (w.heap.size + 1) 5 5 _ _ ((h.below hba).below hbb) hL rfl (by omega) (by omega) (by omega) (fun z => decide (1 ≤ z ∧ z ≤ 3) = true) (some_atI _ 5 (fun z => decide (1 ≤ z ∧ z ≤ 3)) (by kernel_rfl))).mono ?_
  rintro e w1 ⟨z, hz, rfl, hc1, hg1⟩
  go_wp2_with fail
  refine (d_keyG w0 _ gc a len cap code hc1).mono ?_
  rintro e w2 ⟨key, hkey, rfl, hc2, hg2⟩
  have hR1 := hRa.below hbb
  have hR2 := v3_grown hR1 hg1 (by simp; omega)
  have hR3 := v3_grown hR2 hg2 (by simp; omega)
  have hG2 : w.grownBy w2 (some gc) := grownBy_trans (grown_below (grown_below (World.grownBy.refl _ _) hba) hbb) (grownBy_trans hg1 hg2)
  have hcl2 := hc2.lt
  have hs2 : w.heap.size < w2.heap.size := hR3.lt
  clear hR1 hR2 hRa hL hc1 hg1 hg2 hba
  obtain ⟨w3, hw3⟩ : ∃ w3, w2.alloc (.cells #[.int .i64 z, .string key, .string ⟨#[]⟩] 111) = w3 := ⟨_, rfl⟩
  have hb3 : Below w2.heap.size w2 w3 := by rw [← hw3]; exact (Below.refl _ _).alloc (Nat.le_refl _) _
  have hV3 : V3 w3 w2.heap.size 111 (.int .i64 z) (.string key) (.string ⟨#[]⟩) := by rw [← hw3]; exact heap_alloc_new w2 _
  have hs3 : w3.heap.size = w2.heap.size + 1 := by rw [← hw3]; simp
  have hR4 := hR3.below hb3
  have hc3 := hc2.below hb3
  have hG3 := grown_below hG2 hb3
  have hz' := of_decide_eq_true hz
  have hko := goodK_ok hkey
  have HW3 := Hid.mk' hw3
  clear hw3 hb3 hz hkey
  by_cases hz2 : z = 2
  · subst hz2
    have HOK : Hid (odOk ((2 : Int), key, (⟨#[]⟩ : ByteArray)) = true) := (odOk_iff _).2 ⟨hz', fun _ => rfl, hko, by show (0 : Nat) ≤ 20; omega⟩
    have r0 := hR3.c0
    have r1 := hR3.c1
    have r2 := hR3.c2
    have q0 := v3_fz hR3 0
    have q1 := v3_fz hR3 1
    have q2 := v3_fz hR3 2
    have hfin := (v3_all hR3 (.int .i64 2) (.string key) (.string ⟨#[]⟩)).2
    have hcz := hc2.grown hfin (by simp; omega) (fun k e => by cases e; omega)
    have hgz := grown_own hG2 hfin (Nat.le_refl _)
    have hbz : ∀ W : World, Below W.heap.size W (W.alloc (.cells #[.int .i64 2, .string key, .string ⟨#[]⟩] 111)) := fun W => (Below.refl _ _).alloc (Nat.le_refl _) _
    have HVz := Hid.mk' ((v3_all hR3 (.int .i64 2) (.string key) (.string ⟨#[]⟩)).1.below (hbz _))
    have HCz := Hid.mk' (hcz.below (hbz _))
    have HGz := Hid.mk' (grown_below hgz (hbz _))
    clear hfin hcz hgz hbz hc2 hG2 hR3 hc3 hG3 hV3 hR4 HW3 hs3
    go_wp2_with fail
    refine bodyPost_ret (v := .agg #[.int .i64 2, .string key, .string ⟨#[]⟩]) ?_ rfl ⟨((2 : Int), key, (⟨#[]⟩ : ByteArray)), HOK.out, rfl, HCz.out, HGz.out⟩
    simp [results, Try.results56, go_sem, HVz.out.c0, HVz.out.c1, HVz.out.c2]
  · have hzb : (z == 2) = false := beq_eq_false_iff_ne.2 hz2
    have hzn : ¬ z = 2 := hz2
    clear hz2 hR3 hc2 hG2
    obtain ⟨w4, hw4⟩ : ∃ w4, w3.alloc (.cells #[.string ⟨#[49]⟩, .string ⟨#[50]⟩, .string ⟨#[120]⟩, .string ⟨#[]⟩, .string ⟨#[49]⟩] 9) = w4 := ⟨_, rfl⟩
    have hb4 : Below w3.heap.size w3 w4 := by rw [← hw4]; exact (Below.refl _ _).alloc (Nat.le_refl _) _
    have hL4 : w4.heap[w2.heap.size + 1]? = some (.cells #[.string ⟨#[49]⟩, .string ⟨#[50]⟩, .string ⟨#[120]⟩, .string ⟨#[]⟩, .string ⟨#[49]⟩] 9) := by
      have := heap_alloc_new w3 (.cells #[.string ⟨#[49]⟩, .string ⟨#[50]⟩, .string ⟨#[120]⟩, .string ⟨#[]⟩, .string ⟨#[49]⟩] 9)
      rw [hs3, hw4] at this
      exact this
    have HST := Hid.mk' (str_ w0 w4 gc a len cap code (w2.heap.size + 1) 5 5 _ _ (hc3.below hb4) hL4 rfl (by omega) (by omega) (by omega) (fun z => decide (z.size ≤ 20) = true) (some_atB _ 5 (fun z => decide (z.size ≤ 20)) (by kernel_rfl)))
    rw [← hw4, ← HW3.out] at HST
    have HB4 := Hid.mk' hb4
    have HW4 := Hid.mk' hw4
    clear hw4 hL4 hb4
    go_wp2_with fail
    refine HST.out.mono ?_
    rw [HW3.out, HW4.out]
    rintro e w5 ⟨val, hval, rfl, hc5, hg5⟩
    have hV5 := v3_grown (hV3.below HB4.out) hg5 (by simp; omega)
    have hR5 := v3_grown (hR4.below HB4.out) hg5 (by simp; omega)
    have hG5 := grownBy_trans (grown_below hG3 HB4.out) hg5
    have HOK : Hid (odOk (z, key, val) = true) := (odOk_iff _).2 ⟨hz', fun e => absurd e hzn, hko, of_decide_eq_true hval⟩
    clear HST HB4 HW4 HW3 hV3 hR4 hG3 hc3 hg5
    have t0 := hV5.c0
    have t1 := hV5.c1
    have t2 := hV5.c2
    have t3 := v3_fz hV5 2
    have hset := (v3_set hV5).2.2 (.string val)
    have hR6 := v3_grown hR5 hset.2 (by simp; omega)
    have hc6 := hc5.grown hset.2 (by simp; omega) (fun k e => by cases e; omega)
    have hG6 := grown_own hG5 hset.2 (by omega)
    have r0 := hR5.c0
    have r1 := hR5.c1
    have r2 := hR5.c2
    have q0 := v3_fz hR5 0
    have q1 := v3_fz hR5 1
    have q2 := v3_fz hR5 2
    have hfin := (v3_all hR6 (.int .i64 z) (.string key) (.string val)).2
    have HCz := Hid.mk' (hc6.grown hfin (by simp; omega) (fun k e => by cases e; omega))
    have HGz := Hid.mk' (grown_own hG6 hfin (Nat.le_refl _))
    have hnn : w.heap.size ≠ w2.heap.size := by omega
    clear hfin hc6 hG6 hR6 hset hV5 hR5 hc5 hG5
    go_wp2_with fail
    refine bodyPost_ret (v := .agg #[.int .i64 z, .string key, .string val]) ?_ rfl ⟨(z, key, val), HOK.out, rfl, HCz.out, HGz.out⟩
    simp [results, Try.results56, go_sem, r0, r1, r2]
end Go.Proofs.Yteniflajiklffaa.ords

namespace Go.Proofs.Yteniflajiklffaa.ords
open Go Go.RowKit Go.Proofs.Yteniflajiklffaa.base Go.Proofs.Yteniflajiklffaa.pairs Go.Proofs.Yteniflajiklffaa.draw
set_option linter.unusedVariables false
set_option linter.unusedSimpArgs false

theorem oneGo_has (o : Od) (l : List Od) : o ∈ oneGo o false l := by
  induction l with
  | nil => exact List.mem_singleton.2 rfl
  | cons p l ih =>
    rw [oneGo]
    cases hl : ltB p.2.1 o.2.1
    · exact List.mem_append.2 (.inl (List.mem_append.2 (.inl (by simp))))
    · exact List.mem_append.2 (.inr ih)
def GotOps (w0 w : World) (gc : Nat) (a : Option Addr) (len cap : Nat) (code : List UInt8) (e : Ending) (w' : World) : Prop :=
  ∃ (g n cp : Nat) (l : List Od), n ≤ 4 ∧ opsOk l = true ∧ e = .returned (.slice (some ⟨g, 0, none⟩) n cp) ∧ OwnO w' w.heap.size g n cp l ∧ Cur w0 w' gc a len cap code ∧ w.grownBy w' (some gc)
set_option maxRecDepth 100000 in
set_option maxHeartbeats 2000000 in
theorem d_ops (w0 w : World) (gc : Nat) (a : Option Addr) (len cap : Nat) (code : List UInt8) (h : Cur w0 w gc a len cap code) :
    Calls Try.prog 55 #[.pointer (some ⟨gc, 0, none⟩)] w fun e w' => GotOps w0 w gc a len cap code e w' := by
  have hba : Below w.heap.size w (w.alloc (.cells #[] 111)) := (Below.refl _ _).alloc (Nat.le_refl _) _
  have hcl := h.lt
  go_enter Try.func55, Try.ntmps55
  go_wp2_with fail
  refine (below_ w0 _ gc a len cap code _ (h.below hba) (by omega) (by omega)).mono ?_
  rintro e w1 ⟨x, hx, rfl, hc1, hg1⟩
  have hO1 : OwnO w1 w.heap.size w.heap.size 0 0 [] := (ownO_made w w.heap.size (Nat.le_refl _)).grown hg1 (by simp; omega)
  have hG1 : w.grownBy w1 (some gc) := grown_of_alloc hg1
  clear hg1 hba
  go_wp2_with fail
  go_loopw [3, 4] (fun v i wr => ∃ (k g n cp : Nat) (l : List Od), n + k ≤ 4 ∧ (1 ≤ k ∨ 1 ≤ n) ∧ i = .int .i64 (k : Int) ∧ v = .slice (some ⟨g, 0, none⟩) n cp ∧ (∀ p ∈ l, odOk p = true) ∧ RiseO l ∧ OwnO wr w.heap.size g n cp l ∧ Cur w0 wr gc a len cap code ∧ w.grownBy wr (some gc)) (fun _ i _ => (intOf i).toNat)
  case atStart => exact ⟨x + 1, w.heap.size, 0, 0, [], by omega, .inl (by omega), by go_num, rfl, (fun p hp => absurd hp List.not_mem_nil), List.Pairwise.nil, hO1, hc1, hG1⟩
  case round =>
    clear hO1 hc1 hG1
    obtain ⟨k, g, n, cp, l, hnk, hk1, rfl, rfl, hall, hri, hO, hC, hG⟩ := hrel
    by_cases hk0 : 0 < k
    · have hgne : g ≠ gc := by have := hO.lt; omega
      go_wp2_with fail
      refine (d_op1 w0 _ gc a len cap code hC).mono ?_
      rintro e w2 ⟨o, hok, rfl, hC2, hG2⟩
      have hO2 := hO.grown hG2 (by simpa using hgne)
      have hln := hO2.1
      go_wp2_with fail
      refine (spec_l7One _ n cp l o _ hO2.sl (odOk_small hok) (by omega)).mono ?_
      rintro e w4 ⟨g4, n4, cp4, rfl, hO4, hB4⟩
      have hpl := oneGo_length o false l
      have hhas := List.length_pos_of_mem (oneGo_has o l)
      simp at hpl
      have hn4 : n4 ≤ n + 1 ∧ 1 ≤ n4 := by have := hO4.1; omega
      have hC4 := hC2.below hB4
      have hG4 := grown_below (grownBy_trans hG hG2) hB4
      have hO5 := hO4.mono (base' := w.heap.size) (by have := hG.size; have := hG2.size; omega)
      have hall4 : ∀ p ∈ oneGo o false l, odOk p = true := fun p hp => by
        rcases oneGo_mem hp with h1 | rfl
        · exact hall p h1
        · exact hok
      have hri4 := oneGo_rise (o := o) hri
      generalize oneGo o false l = l4 at *
      clear hO hO2 hO4 hB4 hC hC2 hG hG2 hpl hhas hall hri
      go_wp2_with fail
      go_roundw
      case rel => exact ⟨k - 1, g4, n4, cp4, l4, by omega, .inr hn4.2, by go_num, rfl, hall4, hri4, hO5, hC4, hG4⟩
      case measure => simp [intOf]; omega
    · go_wp2_with fail
      go_ret
      have := hO.1
      exact ⟨g, n, cp, l, by omega, (opsOk_iff l).2 ⟨⟨hall, hri⟩, by omega, by omega⟩, rfl, hO, hC, hG⟩
end Go.Proofs.Yteniflajiklffaa.ords

namespace Go.Proofs.Yteniflajiklffaa.ords
open Go Go.RowKit Go.Proofs.Yteniflajiklffaa.base Go.Proofs.Yteniflajiklffaa.pairs Go.Proofs.Yteniflajiklffaa.draw
set_option linter.unusedVariables false
set_option linter.unusedSimpArgs false

def tinyO (o : Od) : Prop := 0 ≤ o.1 ∧ o.1 ≤ 5 ∧ o.2.1.size ≤ 13 ∧ o.2.2.size ≤ 21
theorem tinyO_ok {o : Od} (h : odOk o = true) : tinyO o := by
  obtain ⟨h1, _, h3, h4⟩ := (odOk_iff o).1 h
  have := keyOk_size h3
  exact ⟨by omega, by omega, by omega, by omega⟩
theorem tinyO_small {o : Od} (h : tinyO o) : smallO o := by
  obtain ⟨h1, h2, h3, h4⟩ := h
  exact ⟨WalkArith.wf_i64 (by omega), by unfold maxLen; omega, by unfold maxLen; omega⟩
theorem OwnO.none {w : World} {base g n cap : Nat} {l : List Od} (h : OwnO w base g n cap l) : OwnO w base g 0 cap [] := by
  refine ⟨rfl, fun p hp => absurd hp List.not_mem_nil, rfl, ?_⟩
  rcases h.2.2.2 with ⟨h', _⟩ | ⟨g', cap', cur, h', h0, hg, h1, h2, h3, h4⟩
  · simp at h'
  · simp only [Value.slice.injEq, Option.some.injEq, Addr.mk.injEq, and_true, true_and] at h'
    obtain ⟨rfl, rfl⟩ := h'
    exact .inr ⟨g, cap, cur, rfl, h0, hg, Nat.zero_le _, h2, h3, by simp [ordVals]⟩
def GotAnyO (w0 w : World) (gc : Nat) (a : Option Addr) (len cap : Nat) (code : List UInt8) (e : Ending) (w' : World) : Prop :=
  ∃ (g n cp : Nat) (l : List Od), n ≤ 5 ∧ (∀ p ∈ l, tinyO p) ∧ e = .returned (.slice (some ⟨g, 0, none⟩) n cp) ∧ OwnO w' w.heap.size g n cp l ∧ Cur w0 w' gc a len cap code ∧ w.grownBy w' (some gc)
theorem tiny_set {l : List Od} {i : Nat} {p : Od} (h : ∀ q ∈ l, tinyO q) (hp : tinyO p) : ∀ q ∈ l.set i p, tinyO q := by
  intro q hq
  rcases List.mem_or_eq_of_mem_set hq with h1 | h1
  · exact h q h1
  · subst h1; exact hp
set_option maxRecDepth 100000 in
set_option maxHeartbeats 2000000 in
theorem d_anyO (w0 w : World) (gc : Nat) (a : Option Addr) (len cap : Nat) (code : List UInt8) (h : Cur w0 w gc a len cap code) :
    Calls Try.prog 27 #[.pointer (some ⟨gc, 0, none⟩)] w fun e w' => GotAnyO w0 w gc a len cap code e w' := by
  obtain ⟨i0, hif, hz0, hz1, hz2⟩ := info_parts infoO
  obtain ⟨j0, hjf, hy0, hy1, hy2⟩ := info_parts info8
  have hcl := h.lt
  go_enter Try.func27, Try.ntmps27
  go_wp2_with fail
  refine (d_ops w0 _ gc a len cap code h).mono ?_
  rintro e w1 ⟨g, n, cp, l, hn, hok, rfl, hO1, hC1, hG1⟩
  obtain ⟨⟨hall, _⟩, hl1, hl8⟩ := (opsOk_iff l).1 hok
  have ht : Hid (∀ p ∈ l, tinyO p) := fun p hp => tinyO_ok (hall p hp)
  have hgne : g ≠ gc := by have := hO1.lt; omega
  clear hok hall
  go_wp2_with fail
  refine (below_ w0 _ gc a len cap code _ hC1 (by omega) (by omega)).mono ?_
  rintro e w2 ⟨x, hx, rfl, hC2, hG2⟩
  have hO2 := hO1.grown hG2 (by simpa using hgne)
  have hG2' := grownBy_trans hG1 hG2
  clear hO1 hC1 hG1 hG2
  have hln := hO2.1
  have hn0 : 0 < n := by omega
  have hl0 : 0 < l.length := by omega
  have hki : (0 : Int) < (n : Int) := by omega
  have hgc0 := hC2.ge
  have hwb := h.bel.size
  by_cases x0 : x = 0
  · subst x0
    go_wp2_with (at_builtin; fail)
    refine (d_op1 w0 _ gc a len cap code hC2).mono ?_
    rintro e w4 ⟨o, hok, rfl, hC4, hG4⟩
    have hO4 := hO2.grown hG4 (by simpa using hgne)
    have hG4' := grownBy_trans hG2' hG4
    have hbw : w.heap.size ≤ w4.heap.size := hG4'.size
    have hc3 : n + 1 ≤ maxLen := by unfold maxLen; omega
    have hc4 : (n + 1) * 40 ≤ 140737488355328 := by omega
    have hto := tinyO_ok hok
    clear hO2 hC2 hG2' hG4 hok
    go_wp2_with (at_builtin; refine wpList_append_own _ rfl (.tmp 10) (.tmp 13) 28 rfl w.heap.size 111 i0 (.agg #[.int .i64 0, .string ⟨#[]⟩, .string ⟨#[]⟩]) 3 40 Try.underlying28 hif hz0 hz1 hz2 rfl (by decide) _ _ _ rfl (hO4.2.2.alloc _) ⟨w4.heap.size, 0, none⟩ 1 1 (ordVals [o]) rfl rfl (one_ord_cells _ _ _) (ordVals_oneCell _) hc3 hc4 (le_alloc _ _ hbw) ?_)
    intro v5 w5 hown hgrow hnn
    obtain ⟨g5, cp5, hv, hO5⟩ := ownO_app hO4.1 hO4.2.1 (tinyO_small hto) hnn hown
    subst hv
    have hg5 : (w4.alloc (.cells #[.int .i64 o.1, .string o.2.1, .string o.2.2] 111)).grownBy w5 (some g) := hgrow
    have hC5 : Cur w0 w5 gc a len cap code := (hC4.below ((Below.refl _ _).alloc (Nat.le_refl _) _)).grown hg5 (by simpa using hgne.symm) (fun k e => by cases e; have := hO4.lt; omega)
    have hG5 : w.grownBy w5 (some gc) := grown_own (grown_alloc hG4' _) hg5 hO4.lt.1
    have ht5 : Hid (∀ p ∈ l ++ [o], tinyO p) := by
      intro p hp
      rcases List.mem_append.1 hp with h1 | h1
      · exact ht.out p h1
      · simp at h1; subst h1; exact hto
    have HO5 := Hid.mk' hO5
    clear hown hgrow hnn hO4 hC4 hG4' hg5 hO5
    go_wp2_with (at_builtin; fail)
    go_ret
    exact ⟨g5, n + 1, cp5, _, by omega, ht5.out, rfl, HO5.out, hC5, hG5⟩
  by_cases x1 : x = 1
  · subst x1
    go_wp2_with (at_builtin; fail)
    refine (below_ w0 _ gc a len cap code _ hC2 (by omega) (by omega)).mono ?_
    rintro e w4 ⟨y, hy, rfl, hC4, hG4⟩
    have hO4 := hO2.grown hG4 (by simpa using hgne)
    have hG4' := grownBy_trans hG2' hG4
    have d1 := hO4.kind 0 hl0
    have f1 := hO4.frozen (0 * 3)
    have R := hO4.setKind 0 hl0 (y : Int) (WalkArith.wf_i64 (by omega))
    have ht0 := ht.out _ (List.getElem_mem hl0)
    have HT : Hid (∀ p ∈ l.set 0 ((y : Int), l[0].2), tinyO p) := tiny_set ht.out ⟨by show (0 : Int) ≤ (y : Int); omega, by show (y : Int) ≤ 5; omega, ht0.2.2⟩
    simp only [Nat.zero_mul] at d1 f1 R
    have HC5 : Hid (Cur w0 (w4.setCell ⟨g, 0, none⟩ (.int .i64 (y : Int))) gc a len cap code) := hC4.grown R.2 (by simpa using hgne.symm) (fun k e => by cases e; have := hO4.lt; omega)
    have HG5 := Hid.mk' (grown_own hG4' R.2 hO4.lt.1)
    have HR := Hid.mk' R.1
    clear R hO2 hC2 hG2' hG4 hO4 hC4 hG4' ht0
    go_wp2_with (at_builtin; fail)
    go_ret
    exact ⟨g, n, cp, _, by omega, HT.out, rfl, HR.out, HC5.out, HG5.out⟩
  by_cases x2 : x = 2
  · subst x2
    go_wp2_with (at_builtin; fail)
    refine (d_keyAny w0 _ gc a len cap code hC2).mono ?_
    rintro e w4 ⟨y, hy, rfl, hC4, hG4⟩
    have hO4 := hO2.grown hG4 (by simpa using hgne)
    have hG4' := grownBy_trans hG2' hG4
    have d1 := hO4.key 0 hl0
    have f1 := hO4.frozen (0 * 3 + 1)
    have R := hO4.setKey 0 hl0 y (by unfold maxLen; omega)
    have ht0 := ht.out _ (List.getElem_mem hl0)
    have HT : Hid (∀ p ∈ l.set 0 (l[0].1, y, l[0].2.2), tinyO p) := tiny_set ht.out ⟨ht0.1, ht0.2.1, hy, ht0.2.2.2⟩
    simp only [Nat.zero_mul, Nat.zero_add] at d1 f1 R
    have HC5 : Hid (Cur w0 (w4.setCell ⟨g, 1, none⟩ (.string y)) gc a len cap code) := hC4.grown R.2 (by simpa using hgne.symm) (fun k e => by cases e; have := hO4.lt; omega)
    have HG5 := Hid.mk' (grown_own hG4' R.2 hO4.lt.1)
    have HR := Hid.mk' R.1
    clear R hO2 hC2 hG2' hG4 hO4 hC4 hG4' ht0
    go_wp2_with (at_builtin; fail)
    go_ret
    exact ⟨g, n, cp, _, by omega, HT.out, rfl, HR.out, HC5.out, HG5.out⟩
  by_cases x3 : x = 3
  · subst x3
    go_wp2_with (at_make; fail)
    refine (below_ w0 _ gc a len cap code _ hC2 (by omega) (by omega)).mono ?_
    rintro e w3 ⟨y, hy, rfl, hC3, hG3⟩
    have hO3 := hO2.grown hG3 (by simpa using hgne)
    have hG3' := grownBy_trans hG2' hG3
    clear hO2 hC2 hG2' hG3
    obtain ⟨m, hm⟩ : ∃ m : Nat, 20 + (y : Int) = (m : Int) := ⟨20 + y, by omega⟩
    have hm21 : m ≤ 21 := by omega
    go_wp2_with (at_make; refine wpList_make_full _ rfl _ _ 22 rfl w3.heap.size 5 j0 (.int .u8 0) 1 Try.underlying22 hjf hy0 hy1 _ _ _ _ m rfl rfl (by omega) (by omega) ?b2 ?b3 ?b4 ?_)
    case b2 => rw [hy2]; omega
    case b3 => unfold maxLen; omega
    case b4 => exact Nat.le_refl _
    intro w4 hown hgrow
    have hOb : Own w4 w3.heap.size w3.heap.size m m (List.replicate m 0) := by
      refine ⟨by simp, ?_⟩
      have e : byteVals (List.replicate m 0) = (madeCells #[.int .u8 0] m).toList := by
        simp [byteVals, toList_madeCells_one]
      rw [e]; simpa using hown
    have hcv := conv_own hOb
    have hB4 : Below w3.heap.size w3 w4 := (Below.refl _ _).grown hgrow (Nat.le_refl _) (fun k e => by cases e)
    have hO4 := hO3.below hB4
    have hC4 := hC3.below hB4
    have hG4 := grown_below hG3' hB4
    have d1 := hO4.val 0 hl0
    have f1 := hO4.frozen (0 * 3 + 2)
    have hzs : (⟨(List.replicate m (0 : UInt8)).toArray⟩ : ByteArray).size ≤ 21 := by show (List.replicate m (0 : UInt8)).toArray.size ≤ 21; simp; exact hm21
    have R := hO4.setVal 0 hl0 ⟨(List.replicate m (0 : UInt8)).toArray⟩ (max13 hzs)
    have ht0 := ht.out _ (List.getElem_mem hl0)
    have HT : Hid (∀ p ∈ l.set 0 (l[0].1, l[0].2.1, (⟨(List.replicate m (0 : UInt8)).toArray⟩ : ByteArray)), tinyO p) := tiny_set ht.out ⟨ht0.1, ht0.2.1, ht0.2.2.1, hzs⟩
    simp only [Nat.zero_mul, Nat.zero_add] at d1 f1 R
    have HC5 : Hid (Cur w0 (w4.setCell ⟨g, 2, none⟩ (.string ⟨(List.replicate m (0 : UInt8)).toArray⟩)) gc a len cap code) := hC4.grown R.2 (by simpa using hgne.symm) (fun k e => by cases e; have := hO4.lt; have := hC4.ge; omega)
    have HG5 := Hid.mk' (grown_own hG4 R.2 hO4.lt.1)
    have HR := Hid.mk' R.1
    clear R hown hgrow hOb hB4 hO3 hC3 hG3' hO4 hC4 hG4 ht0
    go_wp2_with (at_builtin; fail)
    go_ret
    exact ⟨g, n, cp, _, by omega, HT.out, rfl, HR.out, HC5.out, HG5.out⟩
  have e0 : ((x : Int) == 0) = false := by simp; omega
  have e1 : ((x : Int) == 1) = false := by simp; omega
  have e2 : ((x : Int) == 2) = false := by simp; omega
  have e3 : ((x : Int) == 3) = false := by simp; omega
  by_cases x4 : x = 4
  · subst x4
    have hO5 := hO2.none
    have hcc := hO2.cases
    unfold maxLen at hcc
    clear x0 x1 x2 x3 e0 e1 e2 e3
    go_wp2_with (at_builtin; fail)
    go_ret
    exact ⟨g, 0, cp, [], by omega, fun p hp => absurd hp List.not_mem_nil, rfl, hO5, hC2, hG2'⟩
  · have e4 : ((x : Int) == 4) = false := by simp; omega
    go_wp2_with (at_builtin; fail)
    go_ret
    exact ⟨g, n, cp, l, by omega, ht.out, rfl, hO2, hC2, hG2'⟩
end Go.Proofs.Yteniflajiklffaa.ords

namespace Go.Proofs.Yteniflajiklffaa.last
open Go Go.RowKit
section
variable {P : Program} {ops : Array Oper} {md : Region.Mode} {Q : Exit → Act → World → Prop} {S : World → Prop} {z : Nat}

def Via (md : Region.Mode) (ops : Array Oper) (ms : List Nat) (z i : Nat) : Prop := ∀ m ∈ z :: ms, ∃ om, ops[m]? = some om ∧ ∃ e ∈ om.after, Region.binds md e = true ∧ (e.on = i ∨ e.on ∈ ms)
theorem via_out {ms : List Nat} {i : Nat} (hv : Via md ops ms z i) {listed : Array Bool} (hr : i ∈ Region.ready md ops listed) (hu : ∀ m ∈ ms, listed.getD m true = false) {j : Nat} (hj : j ∈ Region.ready md ops listed) : j ∉ z :: ms := fun hm => by
  obtain ⟨om, ho, e, he, hb, h⟩ := hv j hm
  rcases h with h | h
  · exact both_ready hr hj ho e he hb h
  · obtain ⟨_, oj, hoj, hall⟩ := mem_ready.1 hj
    rw [ho] at hoj
    cases hoj
    have h1 := hall e he hb
    have h2 := hu e.on h
    unfold Array.getD at h1 h2
    split at h1 <;> simp_all
theorem wpAnyL_firstV {i : Nat} {oi : Oper} {v : Value} {ms : List Nat} (hi : ops[i]? = some oi) (hsel : ∀ (j : Nat) (o : Oper) cs b, ops[j]? = some o → o.op ≠ .select cs b)
    (hQ : ∀ c a w, Q (.panic c) (a.put oi.dst v) w → Q (.panic c) a w) (hv : Via md ops ms z i) :
    ∀ (fuel : Nat) (listed : Array Bool) (a : Act) (w : World),
      (∀ j oj, ops[j]? = some oj → j ≠ i → listed.getD j true = false → (∀ e ∈ oj.after, Region.binds md e = true → e.on ≠ i) → oi.apart ops oj = true) →
      i ∈ Region.ready md ops listed → (∀ m ∈ ms, listed.getD m true = false) → YieldsIf P ops S oi v a → S w →
      wpAnyL P md ops Q S z fuel (listed.setIfInBounds i true) (a.put oi.dst v) w → wpAnyL P md ops Q S z (fuel + 1) listed a w := by
  intro fuel
  induction fuel with
  | zero =>
    intro listed a w _ hr hu hy hS H
    refine ⟨fun h => (by rw [h] at hr; cases hr), fun j hj => ?_⟩
    by_cases hji : j = i
    · subst hji; exact hy.wpOp hi hS ⟨fun _ => hS, H⟩
    · have := ready_mono hj hji
      rw [H.1] at this
      cases this
  | succ fuel ih =>
    intro listed a w hfree hr hu hy hS H
    refine ⟨fun h => (by rw [h] at hr; cases hr), fun j hj => ?_⟩
    by_cases hji : j = i
    · subst hji; exact hy.wpOp hi hS ⟨fun _ => hS, H⟩
    · have h1 := H.2 j (ready_mono hj hji)
      obtain ⟨hjun, oj, hoj, hall⟩ := mem_ready.1 hj
      have hnot : ∀ e ∈ oj.after, Region.binds md e = true → e.on ≠ i := both_ready hr hj hoj
      have h2 := wpOp_putIf hoj (hfree j oj hoj hji hjun hnot) (fun cs b => hsel i oi cs b hi) (fun cs b => hsel j oj cs b hoj) hQ hy h1
      have hfree' : ∀ k ok, ops[k]? = some ok → k ≠ i → (listed.setIfInBounds j true).getD k true = false →
          (∀ e ∈ ok.after, Region.binds md e = true → e.on ≠ i) → oi.apart ops ok = true := fun k ok hk hki hun hno => by
        refine hfree k ok hk hki ?_ hno
        by_cases hjk : j = k
        · subst hjk; exact hjun
        · rw [getD_set_ne true hjk] at hun; exact hun
      have hout := via_out hv hr hu hj
      have hjz : j ≠ z := fun e => hout (by rw [e]; exact List.mem_cons_self)
      have hu' : ∀ m ∈ ms, (listed.setIfInBounds j true).getD m true = false := fun m hm => by
        have hjm : j ≠ m := fun e => hout (by rw [e]; exact List.mem_cons_of_mem _ hm)
        rw [getD_set_ne true hjm]
        exact hu m hm
      refine wpOp_mono (fun a' w' h3 => ⟨h3.2.1, ih (listed.setIfInBounds j true) a' w' hfree' (ready_mono hr (Ne.symm hji)) hu' h3.1 (h3.2.1 hjz) ?_⟩) h2
      rw [Array.setIfInBounds_comm _ _ hji]
      exact h3.2.2
def viaB (md : Region.Mode) (ops : Array Oper) (listed : Array Bool) (ms : List Nat) (z i : Nat) : Bool :=
  ((z :: ms).all fun m => match ops[m]? with | none => false | some om => om.after.any fun e => Region.binds md e && (e.on == i || ms.contains e.on)) && ms.all fun m => !(listed.getD m true)
theorem viaB_spec {listed : Array Bool} {ms : List Nat} {i : Nat} (h : viaB md ops listed ms z i = true) : Via md ops ms z i ∧ ∀ m ∈ ms, listed.getD m true = false := by
  unfold viaB at h
  rw [Bool.and_eq_true, List.all_eq_true, List.all_eq_true] at h
  refine ⟨fun m hm => ?_, fun m hm => by simpa using h.2 m hm⟩
  have h1 := h.1 m hm
  cases ho : ops[m]? with
  | none => rw [ho] at h1; cases h1
  | some om =>
    rw [ho] at h1
    obtain ⟨e, he, hb⟩ := Array.any_eq_true'.1 h1
    simp only [Bool.and_eq_true, Bool.or_eq_true, beq_iff_eq, List.contains_iff_mem] at hb
    exact ⟨om, rfl, e, he, hb.1, hb.2⟩
theorem wpAnyL_via (ms : List Nat) {i : Nat} {oi : Oper} {v : Value} {fuel : Nat} {listed : Array Bool} {a : Act} {w : World} (hi : ops[i]? = some oi)
    (hs : Region.noSelect ops = true) (hf : Region.free md ops listed i = true) (hr : (Region.ready md ops listed).contains i = true) (hw : viaB md ops listed ms z i = true)
    (hQ : ∀ c a w, Q (.panic c) (a.put oi.dst v) w → Q (.panic c) a w) (hy : YieldsIf P ops S oi v a) (hS : S w)
    (h : wpAnyL P md ops Q S z fuel (listed.setIfInBounds i true) (a.put oi.dst v) w) : wpAnyL P md ops Q S z (fuel + 1) listed a w := by
  obtain ⟨h1, h2⟩ := viaB_spec hw
  exact wpAnyL_firstV hi (Region.noSelect_spec hs) hQ h1 fuel listed a w (Region.free_spec hi hf) (by simpa using hr) h2 hy hS h
end
end Go.Proofs.Yteniflajiklffaa.last
