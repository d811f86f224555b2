/- The laws' own helpers on pairs: what each call does. The laws' marks on pairs, and pairs that are the same. Rows of pairs that a law made, kept from step to step; arguments that are pairs, opened. -/
import Derived.Test.YtefjbpkomphjdaaShaa
import Derived.Deep.SlicePairs
import Derived.ChangeArms
namespace Go.Proofs.Ytefjbpkomphjdaa.pairs
open Go Go.RowKit Go.Proofs.Ytefjbpkomphjdaa.base Go.Proofs.Ytefjbpkomphjdaa.helps
set_option linter.unusedVariables false
set_option linter.unusedSimpArgs false

set_option maxHeartbeats 400000 in
theorem toPair (k v : ByteArray) (w : World) :
    Calls Try.prog 52 #[.agg #[.string k, .string v]] w fun e w' => e = .returned (.agg #[.string k, .string v]) ∧ Below w.heap.size w w' := by
  go_enter Try.func52, Try.ntmps52
  have hB : Below w.heap.size w (((w.alloc (.cells #[.string k, .string v] 80)).alloc (.cells #[.string k, .string v] 36)).alloc (.cells #[.string k, .string v] 36)) :=
    (((Below.refl _ _).alloc (Nat.le_refl _) _).alloc (by simp) _).alloc (by simp; omega) _
  go_wp2
  refine bodyPost_ret (v := .agg #[.string k, .string v]) ?h1 rfl ⟨rfl, hB⟩
  simp [results, Try.results52, go_sem]

def szR (L t : Nat) : Int := if t ≤ L then (L : Int) - (t : Int) else -1
theorem szR_neg {L t : Nat} (h : L < t) : szR L t = -1 := by unfold szR; rw [if_neg (by omega)]
theorem szR_pos {L t : Nat} (h : t ≤ L) : szR L t = (L : Int) - (t : Int) := by unfold szR; rw [if_pos h]
def psz (p : Pr) : Nat := p.1.size + p.2.size
def sumP (l : List Pr) : Nat := (l.map psz).sum
theorem sumP_take (l : List Pr) (k : Nat) (h : k < l.length) : sumP (l.take (k + 1)) = sumP (l.take k) + psz l[k] := by
  unfold sumP; rw [take_snocP l k h, List.map_append, List.sum_append]; simp
theorem sumP_le (l : List Pr) (k : Nat) : sumP (l.take k) ≤ sumP l := by
  have e : sumP l = sumP (l.take k) + sumP (l.drop k) := by
    unfold sumP; rw [← List.sum_append, ← List.map_append, List.take_append_drop]
  omega
theorem psz_le (l : List Pr) : ∀ p ∈ l, psz p ≤ sumP l := by
  induction l with
  | nil => intro s h; exact absurd h List.not_mem_nil
  | cons x l ih =>
    intro s h
    simp only [sumP, List.map_cons, List.sum_cons] at *
    rcases List.mem_cons.1 h with h | h
    · subst h; omega
    · have := ih s h; omega

set_option maxHeartbeats 400000 in
theorem szPair (p : Pr) (L : Nat) (w : World) (hp : small p) (hL : L ≤ 1099511627776) :
    Calls Try.prog 51 #[.agg #[.string p.1, .string p.2], .int .i64 (L : Int)] w fun e w' => e = .returned (.int .i64 (szR L (psz p))) ∧ Below w.heap.size w w' := by
  have h1 := hp.1
  have h2 := hp.2
  unfold maxLen at h1 h2
  have hB : Below w.heap.size w (w.alloc (.cells #[.string p.1, .string p.2] 80)) := (Below.refl _ _).alloc (Nat.le_refl _) _
  by_cases a1 : L < p.1.size
  · have a2 : (L : Int) - (p.1.size : Int) < 0 := by omega
    have HZ : Hid (szR L (psz p) = -1) := szR_neg (by unfold psz; omega)
    go_enter Try.func51, Try.ntmps51
    go_wp2
    go_ret
    exact ⟨ret_int HZ.out.symm, hB⟩
  · have a2 : ¬ (L : Int) - (p.1.size : Int) < 0 := by omega
    by_cases a3 : L < p.1.size + p.2.size
    · have a4 : (L : Int) - (p.1.size : Int) - (p.2.size : Int) < 0 := by omega
      have HZ : Hid (szR L (psz p) = -1) := szR_neg (by unfold psz; omega)
      go_enter Try.func51, Try.ntmps51
      go_wp2
      go_ret
      exact ⟨ret_int HZ.out.symm, hB⟩
    · have a4 : ¬ (L : Int) - (p.1.size : Int) - (p.2.size : Int) < 0 := by omega
      have HZ : Hid (szR L (psz p) = (L : Int) - (p.1.size : Int) - (p.2.size : Int)) := by show _ = _; rw [szR_pos (by unfold psz; omega)]; unfold psz; omega
      go_enter Try.func51, Try.ntmps51
      go_wp2
      go_ret
      exact ⟨ret_int HZ.out.symm, hB⟩

set_option maxHeartbeats 400000 in
theorem eqPair (p q : Pr) (w : World) :
    Calls Try.prog 53 #[.agg #[.string p.1, .string p.2], .agg #[.string q.1, .string q.2]] w fun e w' => e = .returned (.bool (decide (p = q))) ∧ Below w.heap.size w w' := by
  have hB : Below w.heap.size w ((w.alloc (.cells #[.string p.1, .string p.2] 36)).alloc (.cells #[.string q.1, .string q.2] 36)) := ((Below.refl _ _).alloc (Nat.le_refl _) _).alloc (by simp) _
  obtain ⟨p1, p2⟩ := p
  obtain ⟨q1, q2⟩ := q
  by_cases e1 : p1 = q1
  · subst e1
    by_cases e2 : p2 = q2
    · subst e2
      go_enter Try.func53, Try.ntmps53
      go_wp2
      go_ret
      exact ⟨ret_bool (by simp), hB⟩
    · have hq := str_ne e2
      have HE := Hid.mk' e2
      clear e2
      go_enter Try.func53, Try.ntmps53
      go_wp2
      go_ret
      exact ⟨ret_bool (by have := HE.out; simp [this]), hB⟩
  · have hq := str_ne e1
    have HE := Hid.mk' e1
    clear e1
    go_enter Try.func53, Try.ntmps53
    go_wp2
    go_ret
    exact ⟨ret_bool (by have := HE.out; simp [this]), hB⟩

def zeroP : Pr := (⟨#[]⟩, ⟨#[]⟩)
def copyP (l : List Pr) (k : Nat) : List Pr := l.take k ++ List.replicate (l.length - k) zeroP
theorem copyP_length (l : List Pr) (k : Nat) (h : k ≤ l.length) : (copyP l k).length = l.length := by simp [copyP]; omega
theorem copyP_zero (l : List Pr) : copyP l 0 = List.replicate l.length zeroP := by simp [copyP]
theorem copyP_all (l : List Pr) : copyP l l.length = l := by simp [copyP]
theorem copyP_small (l : List Pr) (k : Nat) (h : ∀ p ∈ l, small p) : ∀ p ∈ copyP l k, small p := by
  intro p hp
  rcases List.mem_append.1 hp with h1 | h1
  · exact h p (List.mem_of_mem_take h1)
  · obtain rfl := (List.mem_replicate.1 h1).2; exact ⟨Nat.zero_le _, Nat.zero_le _⟩
theorem copyP_set (l : List Pr) (k : Nat) (h : k < l.length) : (copyP l k).set k l[k] = copyP l (k + 1) := by
  unfold copyP
  rw [List.set_append_right _ _ (by simp; omega), take_snocP l k h, List.append_assoc]
  congr 1
  rw [List.length_take_of_le (by omega), Nat.sub_self, show l.length - k = l.length - (k + 1) + 1 by omega, List.replicate_succ]
  rfl
theorem pairVals_rep (n : Nat) : pairVals (List.replicate n zeroP) = (madeCells #[.string ⟨#[]⟩, .string ⟨#[]⟩] (n * 2)).toList := by
  have e1 : pairVals (List.replicate n zeroP) = List.replicate (n * 2) (.string ⟨#[]⟩) := by
    induction n with
    | zero => rfl
    | succ n ih => rw [List.replicate_succ, pairVals_cons, ih, show (n + 1) * 2 = n * 2 + 1 + 1 by omega, List.replicate_succ, List.replicate_succ]; rfl
  rw [e1]
  apply List.ext_getElem
  · simp [madeCells]
  · intro j h1 h2
    have hm : j % 2 = 0 ∨ j % 2 = 1 := by omega
    rcases hm with hm | hm <;> simp [madeCells, hm]

set_option maxRecDepth 100000 in
set_option maxHeartbeats 1000000 in
theorem toPairS (a : Option Addr) (len cap : Nat) (l : List Pr) (w : World) (h : SlP w a len l) (hsz : len ≤ 1099511627776) :
    Calls Try.prog 27 #[.slice a len cap] w fun e w' => ∃ g, e = .returned (.slice (some ⟨g, 0, none⟩) len len) ∧ OwnP w' w.heap.size g len len l ∧ Below w.heap.size w w' := by
  obtain ⟨hl, hm, hsm, hc⟩ := h
  subst hl
  have hm' := hm
  unfold maxLen at hm'
  obtain ⟨i0, hif, hz0, hz1, hz2⟩ := info_parts infoP
  go_enter Try.func27, Try.ntmps27
  go_wp2_with (at_make; refine wpList_make_full _ rfl _ _ 32 rfl w.heap.size 36 i0 (.agg #[.string ⟨#[]⟩, .string ⟨#[]⟩]) 2 Try.underlying32 hif hz0 hz1 _ _ _ _ l.length rfl rfl rfl rfl ?b2 ?b3 ?b4 ?_)
  case b2 => rw [hz2]; omega
  case b3 => exact hm
  case b4 => exact Nat.le_refl _
  intro w1 hown hgrow
  have hOwn : OwnP w1 w.heap.size w.heap.size l.length l.length (copyP l 0) := by
    refine ⟨copyP_length l 0 (Nat.zero_le _), copyP_small l 0 hsm, ?_⟩
    rw [copyP_zero, pairVals_rep]; exact hown
  have hbel : Below w.heap.size w w1 := (Below.refl _ _).grown hgrow (Nat.le_refl _) (fun k e => by cases e)
  clear hown hgrow hif hz0 hz1 hz2
  go_wp2_with fail
  go_loopw [4] (fun i wr => ∃ k : Nat, k ≤ l.length ∧ i = .int .i64 k ∧ OwnP wr w.heap.size w.heap.size l.length l.length (copyP l k) ∧ Below w.heap.size w wr) (fun i _ => l.length - (intOf i).toNat)
  case atStart => exact ⟨0, Nat.zero_le _, rfl, hOwn, hbel⟩
  case round =>
    clear hOwn hbel
    obtain ⟨k, hk, rfl, hO, hB⟩ := hrel
    by_cases hlt : k < l.length
    · obtain ⟨b, off, ha, hcl⟩ := hc (by omega)
      subst ha
      have hbb : b < w.heap.size := World.block_lt_of_cell? w _ (hcl k hlt).1
      have c1 : wr.cell? ⟨b, off + k * 2, none⟩ = some (.string l[k].1) := (hB.cell (p := ⟨b, off + k * 2, none⟩) hbb).trans (hcl k hlt).1
      have c2 : wr.cell? ⟨b, off + k * 2 + 1, none⟩ = some (.string l[k].2) := (hB.cell (p := ⟨b, off + k * 2 + 1, none⟩) hbb).trans (hcl k hlt).2
      have hpk := hsm _ (List.getElem_mem hlt)
      have hki : (k : Int) < (l.length : Int) := by omega
      have HS := Hid.mk' (copyP_set l k hlt)
      generalize l[k] = p at *
      clear hcl hc
      go_wp2_with fail
      refine (toPair p.1 p.2 _).mono ?_
      rintro e w2 ⟨rfl, hB2⟩
      have hO2 := hO.below hB2
      have hB3 := hB.trans (hB2.mono hB.size)
      have hkl : k < (copyP l k).length := by rw [copyP_length l k hk]; exact hlt
      have d1 := hO2.key k hkl
      have d2 := hO2.val k hkl
      have f1 := hO2.frozen (k * 2)
      have f2 := hO2.frozen (k * 2 + 1)
      have R := hO2.setBoth k hkl p.1 p.2 hpk.1 hpk.2
      rw [HS.out] at R
      have HR := Hid.mk' R
      generalize (copyP l k)[k].1 = z1 at *
      generalize (copyP l k)[k].2 = z2 at *
      clear R hO hO2 hB hB2 c1 c2
      go_wp2_with fail
      go_roundw
      case rel => exact ⟨k + 1, by omega, by go_num, HR.out.1, hB3.trans (below_grown HR.out.2 (Nat.le_refl _) hB3.size)⟩
      case measure => simp [intOf]; omega
    · go_wp2_with fail
      go_ret
      have e : k = l.length := by omega
      subst e
      rw [copyP_all] at hO
      exact ⟨_, rfl, hO, hB⟩

set_option maxRecDepth 100000 in
set_option maxHeartbeats 1000000 in
theorem szPairS (a : Option Addr) (len cap : Nat) (l : List Pr) (L : Nat) (w : World) (h : SlP w a len l) (hL : L ≤ 1099511627776) :
    Calls Try.prog 26 #[.slice a len cap, .int .i64 (L : Int)] w fun e w' => e = .returned (.int .i64 (szR L (l.length + sumP l))) ∧ Below w.heap.size w w' := by
  obtain ⟨hl, hm, hsm, hc⟩ := h
  subst hl
  unfold maxLen at hm
  by_cases hneg : L < l.length
  · rw [szR_neg (by omega)]
    have h1 : (L : Int) - (l.length : Int) < 0 := by omega
    go_enter Try.func26, Try.ntmps26
    go_wp2
    go_ret
    exact ⟨rfl, Below.refl _ _⟩
  · have h1 : ¬ (L : Int) - (l.length : Int) < 0 := by omega
    go_enter Try.func26, Try.ntmps26
    go_wp2_with fail
    go_loopw [1, 5] (fun lv i wr => ∃ k m : Nat, k ≤ l.length ∧ i = .int .i64 (k : Int) ∧ lv = .int .i64 (m : Int) ∧ m + (l.length + sumP (l.take k)) = L ∧ Below w.heap.size w wr) (fun _ i _ => l.length - (intOf i).toNat)
    case atStart => exact ⟨0, L - l.length, Nat.zero_le _, rfl, by go_num, by simp [sumP]; omega, Below.refl _ _⟩
    case round =>
      obtain ⟨k, m, hk, rfl, rfl, hmL, hB⟩ := hrel
      by_cases hlt : k < l.length
      · obtain ⟨b, off, ha, hcl⟩ := hc (by omega)
        subst ha
        have hst := sumP_take l k hlt
        have hle := sumP_le l (k + 1)
        have hbb : b < w.heap.size := World.block_lt_of_cell? w _ (hcl k hlt).1
        have c1 : wr.cell? ⟨b, off + k * 2, none⟩ = some (.string l[k].1) := (hB.cell (p := ⟨b, off + k * 2, none⟩) hbb).trans (hcl k hlt).1
        have c2 : wr.cell? ⟨b, off + k * 2 + 1, none⟩ = some (.string l[k].2) := (hB.cell (p := ⟨b, off + k * 2 + 1, none⟩) hbb).trans (hcl k hlt).2
        have hpk := hsm _ (List.getElem_mem hlt)
        have hi1 : (k : Int) < (l.length : Int) := by omega
        have hmB : m ≤ 1099511627776 := by omega
        have HML := Hid.mk' hmL
        have HST := Hid.mk' hst
        have HLE := Hid.mk' hle
        generalize l[k] = p at *
        clear hcl hc hsm hmL hst hle
        have hcall := szPair p m wr hpk hmB
        by_cases hover : m < psz p
        · rw [szR_neg hover] at hcall
          have HC := Hid.mk' hcall
          clear hcall
          go_wp2_with fail
          refine HC.out.mono ?_
          rintro e w2 ⟨rfl, hB2⟩
          go_wp2_with fail
          go_ret
          have e1 := HML.out
          have e2 := HST.out
          have e3 := HLE.out
          rw [szR_neg (by omega)]
          exact ⟨rfl, hB.trans (hB2.mono hB.size)⟩
        · rw [szR_pos (by omega), show (m : Int) - (psz p : Int) = ((m - psz p : Nat) : Int) by omega] at hcall
          have HC := Hid.mk' hcall
          obtain ⟨m2, hm2⟩ : ∃ m2, m - psz p = m2 := ⟨_, rfl⟩
          rw [hm2] at HC
          have HM2 := Hid.mk' hm2
          have hm2b : m2 ≤ 1099511627776 := by omega
          clear hcall hm2
          go_wp2_with fail
          refine HC.out.mono ?_
          rintro e w2 ⟨rfl, hB2⟩
          go_wp2_with fail
          go_roundw
          case rel => exact ⟨k + 1, m2, by omega, by go_num, rfl, by have e1 := HML.out; have e2 := HST.out; have e3 := HM2.out; omega, hB.trans (hB2.mono hB.size)⟩
          case measure => simp [intOf]; omega
      · have e : k = l.length := by omega
        have HML := Hid.mk' hmL
        clear hmL
        go_wp2_with fail
        go_ret
        have e1 := HML.out
        rw [e, List.take_length] at e1
        rw [szR_pos (by omega)]
        exact ⟨ret_int (by omega), hB⟩

theorem take_eqP {l l2 : List Pr} {k : Nat} (h : l.take k = l2.take k) (h1 : k < l.length) (h2 : k < l2.length) (e : l[k] = l2[k]) : l.take (k + 1) = l2.take (k + 1) := by
  rw [take_snocP l k h1, take_snocP l2 k h2, h, e]
set_option maxRecDepth 100000 in
set_option maxHeartbeats 1000000 in
theorem eqPairS (a a2 : Option Addr) (len cap len2 cap2 : Nat) (l l2 : List Pr) (w : World) (h : SlP w a len l) (h2 : SlP w a2 len2 l2) :
    Calls Try.prog 28 #[.slice a len cap, .slice a2 len2 cap2] w fun e w' => e = .returned (.bool (decide (l = l2))) ∧ Below w.heap.size w w' := by
  obtain ⟨hl, hm, _, hc⟩ := h
  obtain ⟨hl2, hm2, _, hc2⟩ := h2
  subst hl hl2
  unfold maxLen at hm hm2
  by_cases hne : l.length = l2.length
  · have hb : ((l.length : Int) == (l2.length : Int)) = true := by simp; omega
    go_enter Try.func28, Try.ntmps28
    go_wp2_with fail
    go_loopw [5] (fun i wr => ∃ k : Nat, k ≤ l.length ∧ i = .int .i64 k ∧ l.take k = l2.take k ∧ Below w.heap.size w wr) (fun i _ => l.length - (intOf i).toNat)
    case atStart => exact ⟨0, Nat.zero_le _, rfl, rfl, Below.refl _ _⟩
    case round =>
      obtain ⟨k, hk, rfl, htk, hB⟩ := hrel
      by_cases hlt : k < l.length
      · obtain ⟨b, off, ha, hcl⟩ := hc (by omega)
        obtain ⟨b2, off2, ha2, hcl2⟩ := hc2 (by omega)
        subst ha ha2
        have hlt2 : k < l2.length := by omega
        have hi1 : (k : Int) < (l.length : Int) := by omega
        have hi2 : (k : Int) < (l2.length : Int) := by omega
        have HT := Hid.mk' htk
        have hb1 : b < w.heap.size := World.block_lt_of_cell? w _ (hcl k hlt).1
        have hb2 : b2 < w.heap.size := World.block_lt_of_cell? w _ (hcl2 k hlt2).1
        have c1 := (hB.cell (p := ⟨b, off + k * 2, none⟩) hb1).trans (hcl k hlt).1
        have c2 := (hB.cell (p := ⟨b, off + k * 2 + 1, none⟩) hb1).trans (hcl k hlt).2
        have c3 := (hB.cell (p := ⟨b2, off2 + k * 2, none⟩) hb2).trans (hcl2 k hlt2).1
        have c4 := (hB.cell (p := ⟨b2, off2 + k * 2 + 1, none⟩) hb2).trans (hcl2 k hlt2).2
        have o1 := last.On.cell (B := wr.heap.size) c1 (by have := hB.size; omega)
        have o2 := last.On.cell (B := wr.heap.size) c2 (by have := hB.size; omega)
        have o3 := last.On.cell (B := wr.heap.size) c3 (by have := hB.size; omega)
        have o4 := last.On.cell (B := wr.heap.size) c4 (by have := hB.size; omega)
        have hinh := last.On.inh wr.heap.size wr
        have hcall : ∀ x : last.On wr.heap.size wr, Calls Try.prog 53 #[.agg #[.string l[k].1, .string l[k].2], .agg #[.string l2[k].1, .string l2[k].2]] x.w fun e w' => e = .returned (.bool (decide (l[k] = l2[k]))) ∧ ∃ y : last.On wr.heap.size wr, w' = y.w := fun x => last.Calls.on x (Nat.le_refl _) (eqPair l[k] l2[k] x.w)
        by_cases e : l[k] = l2[k]
        · rw [decide_eq_true e] at hcall
          have HE := Hid.mk' (take_eqP htk hlt hlt2 e)
          clear hcl hcl2 hc hc2 htk hne e
          generalize l[k] = p at *
          generalize l2[k] = q at *
          go_wp2_with fail
          refine last.wp_region_on wr.heap.size (by kernel_rfl) (by kernel_rfl) ?_
          repeat (go_big_quiet_step ((go_at_call 53; exact hcall _)))
          refine wpQuiet_nil ?_
          intro w5 hw5
          obtain ⟨x5, hw5⟩ := hw5
          subst hw5
          have hB5 : Below w.heap.size w x5.w := hB.trans (x5.2.mono hB.size)
          go_wp2_with fail
          go_roundw
          case rel => exact ⟨k + 1, by omega, by go_num, HE.out, hB5⟩
          case measure => simp [intOf]; omega
        · rw [decide_eq_false e] at hcall
          have HE : Hid (¬ l = l2) := by
            show ¬ _
            rintro rfl; exact e rfl
          clear hcl hcl2 hc hc2 htk hne e
          generalize l[k] = p at *
          generalize l2[k] = q at *
          go_wp2_with fail
          refine last.wp_region_on wr.heap.size (by kernel_rfl) (by kernel_rfl) ?_
          repeat (go_big_quiet_step ((go_at_call 53; exact hcall _)))
          refine wpQuiet_nil ?_
          intro w5 hw5
          obtain ⟨x5, hw5⟩ := hw5
          subst hw5
          have hB5 : Below w.heap.size w x5.w := hB.trans (x5.2.mono hB.size)
          go_wp2_with fail
          go_ret
          exact ⟨ret_bool (by symm; rw [decide_eq_false_iff_not]; exact HE.out), hB5⟩
      · have e : k = l.length := by omega
        have hfin : l = l2 := by
          subst e
          rw [List.take_of_length_le (Nat.le_refl _), List.take_of_length_le (by omega)] at htk
          exact htk
        have HF := Hid.mk' hfin
        clear hfin htk
        go_wp2_with fail
        go_ret
        exact ⟨ret_bool (by symm; rw [decide_eq_true_iff]; exact HF.out), hB⟩
  · have hb : ((l.length : Int) == (l2.length : Int)) = false := by simp; omega
    go_enter Try.func28, Try.ntmps28
    go_wp2
    go_ret
    exact ⟨ret_bool (by symm; rw [decide_eq_false_iff_not]; intro h; exact hne (by rw [h])), Below.refl _ _⟩

end Go.Proofs.Ytefjbpkomphjdaa.pairs

namespace Go.Proofs.Ytefjbpkomphjdaa.pairs
open Go Go.RowKit Go.Proofs.Ytefjbpkomphjdaa.base Go.Proofs.Ytefjbpkomphjdaa.helps
set_option linter.unusedVariables false
set_option linter.unusedSimpArgs false

end Go.Proofs.Ytefjbpkomphjdaa.pairs

namespace Go.Proofs.Ytefjbpkomphjdaa.pairs
open Go Go.RowKit Go.Proofs.Ytefjbpkomphjdaa.base Go.Proofs.Ytefjbpkomphjdaa.helps
set_option linter.unusedVariables false
set_option linter.unusedSimpArgs false

theorem eqP (a a2 : Option Addr) (len cap len2 cap2 : Nat) (l l2 : List Pr) (w : World) (h : SlP w a len l) (h2 : SlP w a2 len2 l2) (he : l = l2) :
    Calls Try.prog 28 #[.slice a len cap, .slice a2 len2 cap2] w fun e w' => e = .returned (.bool true) ∧ Below w.heap.size w w' := by
  refine (eqPairS a a2 len cap len2 cap2 l l2 w h h2).mono ?_
  rintro e w' ⟨rfl, hb⟩
  exact ⟨ret_bool (decide_eq_true he), hb⟩

section
variable {w0 w w' : World} {gx lx cx gg lg cg gw lw cw : Nat} {X G W : List Pr}
end

/-! ### arguments -/
def strOf : Value → ByteArray
  | .string s => s
  | _ => ⟨#[]⟩
theorem slp_open {W : World} {ad : Addr} {len cap : Nat} {V0 V1 : Nat → Value} (hl : len ≤ cap) (hm : cap ≤ maxLen)
    (hs : ∀ i, i < len → V0 i = .string (strOf (V0 i)) ∧ V1 i = .string (strOf (V1 i)) ∧ (strOf (V0 i)).size ≤ maxLen ∧ (strOf (V1 i)).size ≤ maxLen)
    (hc : ∀ i, i < len → W.cell? (ad.add (i * 2)) = some (V0 i) ∧ W.cell? (ad.add (i * 2 + 1)) = some (V1 i)) : ∃ l, SlP W (some ad) len l := by
  obtain ⟨b, off, spot⟩ := ad
  refine ⟨(List.range len).map fun i => (strOf (V0 i), strOf (V1 i)), by simp, by omega, ?_, fun h0 => ?_⟩
  · intro p hp
    obtain ⟨i, hi, rfl⟩ := List.mem_map.1 hp
    have := hs i (List.mem_range.1 hi)
    exact ⟨this.2.2.1, this.2.2.2⟩
  · have hspot : spot = none := by simpa [Addr.add] using World.cell?_spot (hc 0 h0).1
    subst hspot
    refine ⟨b, off, rfl, fun i hi => ?_⟩
    have hi' : i < len := by simpa using hi
    have h1 := hc i hi'
    have h2 := hs i hi'
    rw [Addr.add_lit, Addr.add_lit, h2.1, h2.2.1] at h1
    simp only [List.getElem_map, List.getElem_range]
    rw [← Nat.add_assoc] at h1
    exact h1
theorem slp_arg {H : Type} {enc : TypeId × Value → H} {W : World} {a : Option Addr} {len cap fuel : Nat} {x : DataW H × List MemPlace} (t : TypeId) (e : TypeId) (f0 f1 : Field) (ht : Try.prog.underlying t = some (.slice e)) (he : Try.prog.underlying e = some (.struct #[f0, f1]))
    (ce : Try.prog.cellsOf e = 2) (o0 : f0.offset = 0) (o1 : f1.offset = 1) (t0 : f0.type = 9) (t1 : f1.type = 9) (c9 : Try.prog.cellsOf 9 = 1)
    (h : DataW.trod enc Try.prog W 0 (fun _ => true) true fuel t (Value.cells (.slice a len cap)).toList = some x) : ∃ l, SlP W a len l := by
  rcases Deep.open_slice_pairs ht he ce o0 o1 (by rw [t0]; exact c9) (by rw [t1]; exact c9) h with ⟨hcs, _⟩ | ⟨ad, len', cap', m, n, V0, V1, D0, D1, P0, P1, hcs, _, hl, hm, hmm, _, hx⟩
  · simp [Value.cells] at hcs
    obtain ⟨rfl, rfl, rfl⟩ := hcs
    exact ⟨[], slp_nil _ _⟩
  · simp [Value.cells] at hcs
    obtain ⟨rfl, rfl, rfl⟩ := hcs
    simp at hmm
    refine slp_open (V0 := V0) (V1 := V1) hl hm (fun i hi => ?_) (fun i hi => ⟨(hx i (by omega)).1, (hx i (by omega)).2.1⟩)
    obtain ⟨_, _, h3, h4⟩ := hx i (by omega)
    rw [t0] at h3
    rw [t1] at h4
    obtain ⟨s0, e0, _, z0⟩ := DataW.trod_string Try.underlying9 h3
    obtain ⟨s1, e1, _, z1⟩ := DataW.trod_string Try.underlying9 h4
    simp at e0 e1
    rw [e0, e1]
    exact ⟨rfl, rfl, z0, z1⟩

end Go.Proofs.Ytefjbpkomphjdaa.pairs
