/- The laws' own helpers on orders: what each call does. The laws' marks on orders and on rows of numbers, and orders that are the same. The laws' helpers for those who decide: alike. -/
import Derived.Test.YteammdkipnfmnaaShac
import Derived.Test.YteammdkipnfmnaaShab
import Derived.Handy
namespace Go.Proofs.Yteammdkipnfmnaa.ords
open Go Go.RowKit Go.Proofs.Yteammdkipnfmnaa.base Go.Proofs.Yteammdkipnfmnaa.helps Go.Proofs.Yteammdkipnfmnaa.pairs
set_option linter.unusedVariables false
set_option linter.unusedSimpArgs false

set_option maxHeartbeats 400000 in
theorem toOp (z : Int) (k v : ByteArray) (w : World) :
    Calls Try.prog 75 #[.agg #[.int .i64 z, .string k, .string v]] w fun e w' => e = .returned (.agg #[.int .i64 z, .string k, .string v]) ∧ Below w.heap.size w w' := by
  go_enter Try.func75, Try.ntmps75
  have hB : Below w.heap.size w (((w.alloc (.cells #[.int .i64 z, .string k, .string v] 144)).alloc (.cells #[.int .i64 z, .string k, .string v] 136)).alloc (.cells #[.int .i64 z, .string k, .string v] 136)) :=
    (((Below.refl _ _).alloc (Nat.le_refl _) _).alloc (by simp) _).alloc (by simp; omega) _
  go_wp2
  refine bodyPost_ret (v := .agg #[.int .i64 z, .string k, .string v]) ?h1 rfl ⟨rfl, hB⟩
  simp [results, Try.results75, go_sem]

theorem take_snocO (l : List Od) (k : Nat) (h : k < l.length) : l.take (k + 1) = l.take k ++ [l[k]] := List.take_succ_eq_append_getElem h
def osz (o : Od) : Nat := o.2.1.size + o.2.2.size
def sumO (l : List Od) : Nat := (l.map osz).sum
theorem sumO_take (l : List Od) (k : Nat) (h : k < l.length) : sumO (l.take (k + 1)) = sumO (l.take k) + osz l[k] := by
  unfold sumO; rw [take_snocO l k h, List.map_append, List.sum_append]; simp
theorem sumO_le (l : List Od) (k : Nat) : sumO (l.take k) ≤ sumO l := by
  have e : sumO l = sumO (l.take k) + sumO (l.drop k) := by
    unfold sumO; rw [← List.sum_append, ← List.map_append, List.take_append_drop]
  omega
theorem osz_le (l : List Od) : ∀ o ∈ l, osz o ≤ sumO l := by
  induction l with
  | nil => intro s h; exact absurd h List.not_mem_nil
  | cons x l ih =>
    intro s h
    simp only [sumO, List.map_cons, List.sum_cons] at *
    rcases List.mem_cons.1 h with h | h
    · subst h; omega
    · have := ih s h; omega

set_option maxHeartbeats 400000 in
theorem szOp (p : Od) (L : Nat) (w : World) (hp : smallO p) (hL : L ≤ 1099511627776) :
    Calls Try.prog 71 #[.agg #[.int .i64 p.1, .string p.2.1, .string p.2.2], .int .i64 (L : Int)] w fun e w' => e = .returned (.int .i64 (szR L (osz p))) ∧ Below w.heap.size w w' := by
  have h1 := hp.2.1
  have h2 := hp.2.2
  unfold maxLen at h1 h2
  have hB : Below w.heap.size w (w.alloc (.cells #[.int .i64 p.1, .string p.2.1, .string p.2.2] 144)) := (Below.refl _ _).alloc (Nat.le_refl _) _
  by_cases a1 : L < p.2.1.size
  · have a2 : (L : Int) - (p.2.1.size : Int) < 0 := by omega
    have HZ : Hid (szR L (osz p) = -1) := szR_neg (by unfold osz; omega)
    go_enter Try.func71, Try.ntmps71
    go_wp2
    go_ret
    exact ⟨ret_int HZ.out.symm, hB⟩
  · have a2 : ¬ (L : Int) - (p.2.1.size : Int) < 0 := by omega
    by_cases a3 : L < p.2.1.size + p.2.2.size
    · have a4 : (L : Int) - (p.2.1.size : Int) - (p.2.2.size : Int) < 0 := by omega
      have HZ : Hid (szR L (osz p) = -1) := szR_neg (by unfold osz; omega)
      go_enter Try.func71, Try.ntmps71
      go_wp2
      go_ret
      exact ⟨ret_int HZ.out.symm, hB⟩
    · have a4 : ¬ (L : Int) - (p.2.1.size : Int) - (p.2.2.size : Int) < 0 := by omega
      have HZ : Hid (szR L (osz p) = (L : Int) - (p.2.1.size : Int) - (p.2.2.size : Int)) := by show _ = _; rw [szR_pos (by unfold osz; omega)]; unfold osz; omega
      go_enter Try.func71, Try.ntmps71
      go_wp2
      go_ret
      exact ⟨ret_int HZ.out.symm, hB⟩

set_option maxHeartbeats 400000 in
theorem eqOp (p q : Od) (w : World) :
    Calls Try.prog 78 #[.agg #[.int .i64 p.1, .string p.2.1, .string p.2.2], .agg #[.int .i64 q.1, .string q.2.1, .string q.2.2]] w fun e w' => e = .returned (.bool (decide (p = q))) ∧ Below w.heap.size w w' := by
  have hB : Below w.heap.size w ((w.alloc (.cells #[.int .i64 p.1, .string p.2.1, .string p.2.2] 136)).alloc (.cells #[.int .i64 q.1, .string q.2.1, .string q.2.2] 136)) := ((Below.refl _ _).alloc (Nat.le_refl _) _).alloc (by simp) _
  obtain ⟨p0, p1, p2⟩ := p
  obtain ⟨q0, q1, q2⟩ := q
  by_cases e0 : p0 = q0
  · subst e0
    have h0 : (p0 == p0) = true := beq_self_eq_true _
    by_cases e1 : p1 = q1
    · subst e1
      by_cases e2 : p2 = q2
      · subst e2
        go_enter Try.func78, Try.ntmps78
        go_wp2
        go_ret
        exact ⟨ret_bool (by simp), hB⟩
      · have hq := str_ne e2
        have HE := Hid.mk' e2
        clear e2
        go_enter Try.func78, Try.ntmps78
        go_wp2
        go_ret
        exact ⟨ret_bool (by have := HE.out; simp [this]), hB⟩
    · have hq := str_ne e1
      have HE := Hid.mk' e1
      clear e1
      go_enter Try.func78, Try.ntmps78
      go_wp2
      go_ret
      exact ⟨ret_bool (by have := HE.out; simp [this]), hB⟩
  · have h0 : (p0 == q0) = false := beq_eq_false_iff_ne.2 e0
    have HE := Hid.mk' e0
    clear e0
    go_enter Try.func78, Try.ntmps78
    go_wp2
    go_ret
    exact ⟨ret_bool (by have := HE.out; simp [this]), hB⟩

def zeroO : Od := (0, ⟨#[]⟩, ⟨#[]⟩)
def copyO (l : List Od) (k : Nat) : List Od := l.take k ++ List.replicate (l.length - k) zeroO
theorem copyO_length (l : List Od) (k : Nat) (h : k ≤ l.length) : (copyO l k).length = l.length := by simp [copyO]; omega
theorem copyO_zero (l : List Od) : copyO l 0 = List.replicate l.length zeroO := by simp [copyO]
theorem copyO_all (l : List Od) : copyO l l.length = l := by simp [copyO]
theorem copyO_small (l : List Od) (k : Nat) (h : ∀ p ∈ l, smallO p) : ∀ p ∈ copyO l k, smallO p := by
  intro p hp
  rcases List.mem_append.1 hp with h1 | h1
  · exact h p (List.mem_of_mem_take h1)
  · obtain rfl := (List.mem_replicate.1 h1).2; exact ⟨rfl, Nat.zero_le _, Nat.zero_le _⟩
theorem copyO_set (l : List Od) (k : Nat) (h : k < l.length) : (copyO l k).set k l[k] = copyO l (k + 1) := by
  unfold copyO
  rw [List.set_append_right _ _ (by simp; omega), take_snocO l k h, List.append_assoc]
  congr 1
  rw [List.length_take_of_le (by omega), Nat.sub_self, show l.length - k = l.length - (k + 1) + 1 by omega, List.replicate_succ]
  rfl
theorem ordVals_rep (n : Nat) : ordVals (List.replicate n zeroO) = (madeCells #[.int .i64 0, .string ⟨#[]⟩, .string ⟨#[]⟩] (n * 3)).toList := by
  apply List.ext_getElem
  · rw [ordVals_length]; simp [madeCells]
  · intro j h1 h2
    rw [ordVals_length, List.length_replicate] at h1
    obtain ⟨e0, e1, e2⟩ := ordVals_at (List.replicate n zeroO) (j / 3) (by simp; omega)
    rw [← Option.some_inj, ← List.getElem?_eq_getElem]
    have hm : j = j / 3 * 3 ∨ j = j / 3 * 3 + 1 ∨ j = j / 3 * 3 + 2 := by omega
    rcases hm with hm | hm | hm
    · have h3 : j % 3 = 0 := by omega
      conv => lhs; rw [hm, e0]
      simp [madeCells, h3, zeroO]
    · have h3 : j % 3 = 1 := by omega
      conv => lhs; rw [hm, e1]
      simp [madeCells, h3, zeroO]
    · have h3 : j % 3 = 2 := by omega
      conv => lhs; rw [hm, e2]
      simp [madeCells, h3, zeroO]

set_option maxRecDepth 100000 in
set_option maxHeartbeats 1000000 in
theorem toOpS (a : Option Addr) (len cap : Nat) (l : List Od) (w : World) (h : SlO w a len l) (hsz : len ≤ 1099511627776) :
    Calls Try.prog 61 #[.slice a len cap] w fun e w' => ∃ g, e = .returned (.slice (some ⟨g, 0, none⟩) len len) ∧ OwnO w' w.heap.size g len len l ∧ Below w.heap.size w w' := by
  obtain ⟨hl, hm, hsm, hc⟩ := h
  subst hl
  have hm' := hm
  unfold maxLen at hm'
  obtain ⟨i0, hif, hz0, hz1, hz2⟩ := info_parts infoO
  go_enter Try.func61, Try.ntmps61
  go_wp2_with (at_make; refine wpList_make_full _ rfl _ _ 90 rfl w.heap.size 136 i0 (.agg #[.int .i64 0, .string ⟨#[]⟩, .string ⟨#[]⟩]) 3 Try.underlying90 hif hz0 hz1 _ _ _ _ l.length rfl rfl rfl rfl ?b2 ?b3 ?b4 ?_)
  case b2 => rw [hz2]; omega
  case b3 => exact hm
  case b4 => exact Nat.le_refl _
  intro w1 hown hgrow
  have hOwn : OwnO w1 w.heap.size w.heap.size l.length l.length (copyO l 0) := by
    refine ⟨copyO_length l 0 (Nat.zero_le _), copyO_small l 0 hsm, ?_⟩
    rw [copyO_zero, ordVals_rep]; exact hown
  have hbel : Below w.heap.size w w1 := (Below.refl _ _).grown hgrow (Nat.le_refl _) (fun k e => by cases e)
  clear hown hgrow hif hz0 hz1 hz2
  go_wp2_with fail
  go_loopw [4] (fun i wr => ∃ k : Nat, k ≤ l.length ∧ i = .int .i64 k ∧ OwnO wr w.heap.size w.heap.size l.length l.length (copyO l k) ∧ Below w.heap.size w wr) (fun i _ => l.length - (intOf i).toNat)
  case atStart => exact ⟨0, Nat.zero_le _, rfl, hOwn, hbel⟩
  case round =>
    clear hOwn hbel
    obtain ⟨k, hk, rfl, hO, hB⟩ := hrel
    by_cases hlt : k < l.length
    · obtain ⟨b, off, ha, hcl⟩ := hc (by omega)
      subst ha
      have hbb : b < w.heap.size := World.block_lt_of_cell? w _ (hcl k hlt).1
      have c0 : wr.cell? ⟨b, off + k * 3, none⟩ = some (.int .i64 l[k].1) := (hB.cell (p := ⟨b, off + k * 3, none⟩) hbb).trans (hcl k hlt).1
      have c1 : wr.cell? ⟨b, off + k * 3 + 1, none⟩ = some (.string l[k].2.1) := (hB.cell (p := ⟨b, off + k * 3 + 1, none⟩) hbb).trans (hcl k hlt).2.1
      have c2 : wr.cell? ⟨b, off + k * 3 + 2, none⟩ = some (.string l[k].2.2) := (hB.cell (p := ⟨b, off + k * 3 + 2, none⟩) hbb).trans (hcl k hlt).2.2
      have hpk := hsm _ (List.getElem_mem hlt)
      have hki : (k : Int) < (l.length : Int) := by omega
      have HS := Hid.mk' (copyO_set l k hlt)
      generalize l[k] = p at *
      clear hcl hc
      go_wp2_with fail
      refine (toOp p.1 p.2.1 p.2.2 _).mono ?_
      rintro e w2 ⟨rfl, hB2⟩
      have hO2 := hO.below hB2
      have hB3 := hB.trans (hB2.mono hB.size)
      have hkl : k < (copyO l k).length := by rw [copyO_length l k hk]; exact hlt
      have d0 := hO2.kind k hkl
      have d1 := hO2.key k hkl
      have d2 := hO2.val k hkl
      have f0 := hO2.frozen (k * 3)
      have f1 := hO2.frozen (k * 3 + 1)
      have f2 := hO2.frozen (k * 3 + 2)
      have R := hO2.setAll k hkl p.1 p.2.1 p.2.2 hpk.1 hpk.2.1 hpk.2.2
      rw [HS.out] at R
      have HR := Hid.mk' R
      generalize (copyO l k)[k].1 = z0 at *
      generalize (copyO l k)[k].2.1 = z1 at *
      generalize (copyO l k)[k].2.2 = z2 at *
      clear R hO hO2 hB hB2 c0 c1 c2
      go_wp2_with fail
      go_roundw
      case rel => exact ⟨k + 1, by omega, by go_num, HR.out.1, hB3.trans (below_grown HR.out.2 (Nat.le_refl _) hB3.size)⟩
      case measure => simp [intOf]; omega
    · go_wp2_with fail
      go_ret
      have e : k = l.length := by omega
      subst e
      rw [copyO_all] at hO
      exact ⟨_, rfl, hO, hB⟩

set_option maxRecDepth 100000 in
set_option maxHeartbeats 1000000 in
theorem szOpS (a : Option Addr) (len cap : Nat) (l : List Od) (L : Nat) (w : World) (h : SlO w a len l) (hL : L ≤ 1099511627776) :
    Calls Try.prog 56 #[.slice a len cap, .int .i64 (L : Int)] w fun e w' => e = .returned (.int .i64 (szR L (l.length + sumO l))) ∧ Below w.heap.size w w' := by
  obtain ⟨hl, hm, hsm, hc⟩ := h
  subst hl
  unfold maxLen at hm
  by_cases hneg : L < l.length
  · rw [szR_neg (by omega)]
    have h1 : (L : Int) - (l.length : Int) < 0 := by omega
    go_enter Try.func56, Try.ntmps56
    go_wp2
    go_ret
    exact ⟨rfl, Below.refl _ _⟩
  · have h1 : ¬ (L : Int) - (l.length : Int) < 0 := by omega
    go_enter Try.func56, Try.ntmps56
    go_wp2_with fail
    go_loopw [1, 5] (fun lv i wr => ∃ k m : Nat, k ≤ l.length ∧ i = .int .i64 (k : Int) ∧ lv = .int .i64 (m : Int) ∧ m + (l.length + sumO (l.take k)) = L ∧ Below w.heap.size w wr) (fun _ i _ => l.length - (intOf i).toNat)
    case atStart => exact ⟨0, L - l.length, Nat.zero_le _, rfl, by go_num, by simp [sumO]; omega, Below.refl _ _⟩
    case round =>
      obtain ⟨k, m, hk, rfl, rfl, hmL, hB⟩ := hrel
      by_cases hlt : k < l.length
      · obtain ⟨b, off, ha, hcl⟩ := hc (by omega)
        subst ha
        have hst := sumO_take l k hlt
        have hle := sumO_le l (k + 1)
        have hbb : b < w.heap.size := World.block_lt_of_cell? w _ (hcl k hlt).1
        have c0 : wr.cell? ⟨b, off + k * 3, none⟩ = some (.int .i64 l[k].1) := (hB.cell (p := ⟨b, off + k * 3, none⟩) hbb).trans (hcl k hlt).1
        have c1 : wr.cell? ⟨b, off + k * 3 + 1, none⟩ = some (.string l[k].2.1) := (hB.cell (p := ⟨b, off + k * 3 + 1, none⟩) hbb).trans (hcl k hlt).2.1
        have c2 : wr.cell? ⟨b, off + k * 3 + 2, none⟩ = some (.string l[k].2.2) := (hB.cell (p := ⟨b, off + k * 3 + 2, none⟩) hbb).trans (hcl k hlt).2.2
        have hpk := hsm _ (List.getElem_mem hlt)
        have hi1 : (k : Int) < (l.length : Int) := by omega
        have hmB : m ≤ 1099511627776 := by omega
        have HML := Hid.mk' hmL
        have HST := Hid.mk' hst
        have HLE := Hid.mk' hle
        generalize l[k] = p at *
        clear hcl hc hsm hmL hst hle
        have hcall := szOp p m wr hpk hmB
        by_cases hover : m < osz p
        · rw [szR_neg hover] at hcall
          have HC := Hid.mk' hcall
          clear hcall
          go_wp2_with fail
          refine HC.out.mono ?_
          rintro e w2 ⟨rfl, hB2⟩
          go_wp2_with fail
          go_ret
          have e1 := HML.out
          have e2 := HST.out
          have e3 := HLE.out
          rw [szR_neg (by omega)]
          exact ⟨rfl, hB.trans (hB2.mono hB.size)⟩
        · rw [szR_pos (by omega), show (m : Int) - (osz p : Int) = ((m - osz p : Nat) : Int) by omega] at hcall
          have HC := Hid.mk' hcall
          obtain ⟨m2, hm2⟩ : ∃ m2, m - osz p = m2 := ⟨_, rfl⟩
          rw [hm2] at HC
          have HM2 := Hid.mk' hm2
          have hm2b : m2 ≤ 1099511627776 := by omega
          clear hcall hm2
          go_wp2_with fail
          refine HC.out.mono ?_
          rintro e w2 ⟨rfl, hB2⟩
          go_wp2_with fail
          go_roundw
          case rel => exact ⟨k + 1, m2, by omega, by go_num, rfl, by have e1 := HML.out; have e2 := HST.out; have e3 := HM2.out; omega, hB.trans (hB2.mono hB.size)⟩
          case measure => simp [intOf]; omega
      · have e : k = l.length := by omega
        have HML := Hid.mk' hmL
        clear hmL
        go_wp2_with fail
        go_ret
        have e1 := HML.out
        rw [e, List.take_length] at e1
        rw [szR_pos (by omega)]
        exact ⟨ret_int (by omega), hB⟩

theorem take_eqO {l l2 : List Od} {k : Nat} (h : l.take k = l2.take k) (h1 : k < l.length) (h2 : k < l2.length) (e : l[k] = l2[k]) : l.take (k + 1) = l2.take (k + 1) := by
  rw [take_snocO l k h1, take_snocO l2 k h2, h, e]
set_option maxRecDepth 100000 in
set_option maxHeartbeats 1000000 in
theorem eqOpS (a a2 : Option Addr) (len cap len2 cap2 : Nat) (l l2 : List Od) (w : World) (h : SlO w a len l) (h2 : SlO w a2 len2 l2) :
    Calls Try.prog 66 #[.slice a len cap, .slice a2 len2 cap2] w fun e w' => e = .returned (.bool (decide (l = l2))) ∧ Below w.heap.size w w' := by
  obtain ⟨hl, hm, _, hc⟩ := h
  obtain ⟨hl2, hm2, _, hc2⟩ := h2
  subst hl hl2
  unfold maxLen at hm hm2
  by_cases hne : l.length = l2.length
  · have hb : ((l.length : Int) == (l2.length : Int)) = true := by simp; omega
    go_enter Try.func66, Try.ntmps66
    go_wp2_with fail
    go_loopw [5] (fun i wr => ∃ k : Nat, k ≤ l.length ∧ i = .int .i64 k ∧ l.take k = l2.take k ∧ Below w.heap.size w wr) (fun i _ => l.length - (intOf i).toNat)
    case atStart => exact ⟨0, Nat.zero_le _, rfl, rfl, Below.refl _ _⟩
    case round =>
      obtain ⟨k, hk, rfl, htk, hB⟩ := hrel
      by_cases hlt : k < l.length
      · obtain ⟨b, off, ha, hcl⟩ := hc (by omega)
        obtain ⟨b2, off2, ha2, hcl2⟩ := hc2 (by omega)
        subst ha ha2
        have hlt2 : k < l2.length := by omega
        have hi1 : (k : Int) < (l.length : Int) := by omega
        have hi2 : (k : Int) < (l2.length : Int) := by omega
        have HT := Hid.mk' htk
        have hb1 : b < w.heap.size := World.block_lt_of_cell? w _ (hcl k hlt).1
        have hb2 : b2 < w.heap.size := World.block_lt_of_cell? w _ (hcl2 k hlt2).1
        have c0 := (hB.cell (p := ⟨b, off + k * 3, none⟩) hb1).trans (hcl k hlt).1
        have c1 := (hB.cell (p := ⟨b, off + k * 3 + 1, none⟩) hb1).trans (hcl k hlt).2.1
        have c2 := (hB.cell (p := ⟨b, off + k * 3 + 2, none⟩) hb1).trans (hcl k hlt).2.2
        have d0 := (hB.cell (p := ⟨b2, off2 + k * 3, none⟩) hb2).trans (hcl2 k hlt2).1
        have d1 := (hB.cell (p := ⟨b2, off2 + k * 3 + 1, none⟩) hb2).trans (hcl2 k hlt2).2.1
        have d2 := (hB.cell (p := ⟨b2, off2 + k * 3 + 2, none⟩) hb2).trans (hcl2 k hlt2).2.2
        have oc0 := last.On.cell (B := wr.heap.size) c0 (by have := hB.size; omega)
        have oc1 := last.On.cell (B := wr.heap.size) c1 (by have := hB.size; omega)
        have oc2 := last.On.cell (B := wr.heap.size) c2 (by have := hB.size; omega)
        have od0 := last.On.cell (B := wr.heap.size) d0 (by have := hB.size; omega)
        have od1 := last.On.cell (B := wr.heap.size) d1 (by have := hB.size; omega)
        have od2 := last.On.cell (B := wr.heap.size) d2 (by have := hB.size; omega)
        have hinh := last.On.inh wr.heap.size wr
        have hcall : ∀ x : last.On wr.heap.size wr, Calls Try.prog 78 #[.agg #[.int .i64 l[k].1, .string l[k].2.1, .string l[k].2.2], .agg #[.int .i64 l2[k].1, .string l2[k].2.1, .string l2[k].2.2]] x.w fun e w' => e = .returned (.bool (decide (l[k] = l2[k]))) ∧ ∃ y : last.On wr.heap.size wr, w' = y.w := fun x => last.Calls.on x (Nat.le_refl _) (eqOp l[k] l2[k] x.w)
        by_cases e : l[k] = l2[k]
        · rw [decide_eq_true e] at hcall
          have HE := Hid.mk' (take_eqO htk hlt hlt2 e)
          clear hcl hcl2 hc hc2 htk hne e
          generalize l[k] = p at *
          generalize l2[k] = q at *
          go_wp2_with fail
          refine last.wp_region_on wr.heap.size (by kernel_rfl) (by kernel_rfl) ?_
          repeat (go_big_quiet_step ((go_at_call 78; exact hcall _)))
          refine wpQuiet_nil ?_
          intro w5 hw5
          obtain ⟨x5, hw5⟩ := hw5
          subst hw5
          have hB5 : Below w.heap.size w x5.w := hB.trans (x5.2.mono hB.size)
          go_wp2_with fail
          go_roundw
          case rel => exact ⟨k + 1, by omega, by go_num, HE.out, hB5⟩
          case measure => simp [intOf]; omega
        · rw [decide_eq_false e] at hcall
          have HE : Hid (¬ l = l2) := by
            show ¬ _
            rintro rfl; exact e rfl
          clear hcl hcl2 hc hc2 htk hne e
          generalize l[k] = p at *
          generalize l2[k] = q at *
          go_wp2_with fail
          refine last.wp_region_on wr.heap.size (by kernel_rfl) (by kernel_rfl) ?_
          repeat (go_big_quiet_step ((go_at_call 78; exact hcall _)))
          refine wpQuiet_nil ?_
          intro w5 hw5
          obtain ⟨x5, hw5⟩ := hw5
          subst hw5
          have hB5 : Below w.heap.size w x5.w := hB.trans (x5.2.mono hB.size)
          go_wp2_with fail
          go_ret
          exact ⟨ret_bool (by symm; rw [decide_eq_false_iff_not]; exact HE.out), hB5⟩
      · have e : k = l.length := by omega
        have hfin : l = l2 := by
          subst e
          rw [List.take_of_length_le (Nat.le_refl _), List.take_of_length_le (by omega)] at htk
          exact htk
        have HF := Hid.mk' hfin
        clear hfin htk
        go_wp2_with fail
        go_ret
        exact ⟨ret_bool (by symm; rw [decide_eq_true_iff]; exact HF.out), hB⟩
  · have hb : ((l.length : Int) == (l2.length : Int)) = false := by simp; omega
    go_enter Try.func66, Try.ntmps66
    go_wp2
    go_ret
    exact ⟨ret_bool (by symm; rw [decide_eq_false_iff_not]; intro h; exact hne (by rw [h])), Below.refl _ _⟩

end Go.Proofs.Yteammdkipnfmnaa.ords

namespace Go.Proofs.Yteammdkipnfmnaa.ords
open Go Go.RowKit Go.Proofs.Yteammdkipnfmnaa.base Go.Proofs.Yteammdkipnfmnaa.helps Go.Proofs.Yteammdkipnfmnaa.pairs
set_option linter.unusedVariables false
set_option linter.unusedSimpArgs false

def marksO (k0 n : Nat) : List Od := (List.range n).map fun j => (((k0 + 3 * j : Nat) : Int), markBytes (k0 + 3 * j + 1), markBytes (k0 + 3 * j + 2))
def markOTo (l : List Od) (k0 i : Nat) : List Od := marksO k0 i ++ l.drop i
theorem marksO_length (k0 n : Nat) : (marksO k0 n).length = n := by simp [marksO]
theorem markOTo_length (l : List Od) (k0 i : Nat) (h : i ≤ l.length) : (markOTo l k0 i).length = l.length := by simp [markOTo, marksO]; omega
theorem markOTo_zero (l : List Od) (k0 : Nat) : markOTo l k0 0 = l := by simp [markOTo, marksO]
theorem markOTo_all (l : List Od) (k0 : Nat) : markOTo l k0 l.length = marksO k0 l.length := by simp [markOTo]
theorem markOTo_set (l : List Od) (k0 i : Nat) (h : i < l.length) : (markOTo l k0 i).set i (((k0 + 3 * i : Nat) : Int), markBytes (k0 + 3 * i + 1), markBytes (k0 + 3 * i + 2)) = markOTo l k0 (i + 1) := by
  unfold markOTo marksO
  rw [List.set_append_right _ _ (by simp)]
  simp only [List.length_map, List.length_range, Nat.sub_self, List.range_succ, List.map_append, List.map_cons, List.map_nil, List.append_assoc]
  congr 1
  rw [List.drop_eq_getElem_cons h]
  rfl

set_option maxRecDepth 100000 in
set_option maxHeartbeats 1000000 in
theorem markOpS (g len cap k0 base : Nat) (l : List Od) (w : World) (h : OwnO w base g len cap l) (hk1 : 1 ≤ k0) (hk0 : k0 + 3 * len ≤ 1099511627776) :
    Calls Try.prog 51 #[.slice (some ⟨g, 0, none⟩) len cap, .int .i64 (k0 : Nat)] w fun e w' => e = .returned (.int .i64 ((k0 + 3 * len : Nat) : Int)) ∧ OwnO w' base g len cap (marksO k0 len) ∧ w.grownBy w' (some g) := by
  have hl := h.1
  subst hl
  go_enter Try.func51, Try.ntmps51
  go_wp2_with fail
  go_loopw [1, 5] (fun kv i wr => ∃ k : Nat, k ≤ l.length ∧ i = .int .i64 k ∧ kv = .int .i64 ((k0 + 3 * k : Nat) : Int) ∧ OwnO wr base g l.length cap (markOTo l k0 k) ∧ w.grownBy wr (some g)) (fun _ i _ => l.length - (intOf i).toNat)
  case atStart => exact ⟨0, Nat.zero_le _, rfl, rfl, by rw [markOTo_zero]; exact h, World.grownBy.refl _ _⟩
  case round =>
    obtain ⟨k, hk, rfl, rfl, hO, hG⟩ := hrel
    by_cases hlt : k < l.length
    · have hlen : k < (markOTo l k0 k).length := by rw [markOTo_length l k0 k hk]; exact hlt
      have HS := Hid.mk' (markOTo_set l k0 k hlt)
      have hki : (k : Int) < (l.length : Int) := by omega
      have d0 := hO.kind k hlen
      have f0 := hO.frozen (k * 3)
      have R0 := hO.setKind k hlen ((k0 + 3 * k : Nat) : Int) (WalkArith.wf_i64 (by omega))
      have HR0 := Hid.mk' R0
      have hG0 := grownBy_trans hG R0.2
      clear R0 hO hG
      go_wp2_with fail
      refine (markTextI _ (k0 + 3 * k + 1) _ (by show _ = _; omega) (by omega) (by omega)).mono ?_
      rintro e w1 ⟨rfl, hB1⟩
      have hO1 := HR0.out.1.below hB1
      have hG1 := grown_below hG0 hB1
      have hlen1 : k < ((markOTo l k0 k).set k (((k0 + 3 * k : Nat) : Int), (markOTo l k0 k)[k].2)).length := by simpa using hlen
      have d1 := hO1.key k hlen1
      have f1 := hO1.frozen (k * 3 + 1)
      have R := hO1.setKey k hlen1 (markBytes (k0 + 3 * k + 1)) (mark_max _)
      simp only [List.getElem_set_self, List.set_set] at R
      have HR := Hid.mk' R
      have hG2 := grownBy_trans hG1 R.2
      clear R hO1 hG1 HR0 hG0 d0 f0
      go_wp2_with fail
      refine (markTextI _ (k0 + 3 * k + 2) _ (by show _ = _; omega) (by omega) (by omega)).mono ?_
      rintro e w2 ⟨rfl, hB2⟩
      have hO2 := HR.out.1.below hB2
      have hG3 := grown_below hG2 hB2
      have hlen2 : k < ((markOTo l k0 k).set k (((k0 + 3 * k : Nat) : Int), markBytes (k0 + 3 * k + 1), (markOTo l k0 k)[k].2.2)).length := by simpa using hlen
      have d2 := hO2.val k hlen2
      have f2 := hO2.frozen (k * 3 + 2)
      have R2 := hO2.setVal k hlen2 (markBytes (k0 + 3 * k + 2)) (mark_max _)
      simp only [List.getElem_set_self, List.set_set] at R2
      rw [HS.out] at R2
      have HR2 := Hid.mk' R2
      have hG4 := grownBy_trans hG3 R2.2
      clear R2 hO2 hG3 hG2 HR d1 f1
      go_wp2_with fail
      go_roundw
      case rel => exact ⟨k + 1, by omega, by go_num, by go_num, HR2.out.1, hG4⟩
      case measure => simp [intOf]; omega
    · go_wp2_with fail
      go_ret
      have e : k = l.length := by omega
      subst e
      rw [markOTo_all] at hO
      exact ⟨rfl, hO, hG⟩


/-! ### rows of numbers -/
theorem take_eqZ {l l2 : List Int} {k : Nat} (h : l.take k = l2.take k) (h1 : k < l.length) (h2 : k < l2.length) (e : l[k] = l2[k]) : l.take (k + 1) = l2.take (k + 1) := by
  rw [List.take_succ_eq_append_getElem h1, List.take_succ_eq_append_getElem h2, h, e]
set_option maxRecDepth 100000 in
set_option maxHeartbeats 1000000 in
theorem eqIntS (a a2 : Option Addr) (len cap len2 cap2 : Nat) (l l2 : List Int) (w : World) (h : SlZ w a len l) (h2 : SlZ w a2 len2 l2) :
    Calls Try.prog 76 #[.slice a len cap, .slice a2 len2 cap2] w fun e w' => e = .returned (.bool (decide (l = l2))) ∧ Below w.heap.size w w' := by
  obtain ⟨hl, hm, hc⟩ := h
  obtain ⟨hl2, hm2, hc2⟩ := h2
  subst hl hl2
  unfold maxLen at hm hm2
  by_cases hne : l.length = l2.length
  · have hb : ((l.length : Int) == (l2.length : Int)) = true := by simp; omega
    go_enter Try.func76, Try.ntmps76
    go_wp2_with fail
    go_loopw [5] (fun i wr => ∃ k : Nat, k ≤ l.length ∧ i = .int .i64 k ∧ l.take k = l2.take k ∧ Below w.heap.size w wr) (fun i _ => l.length - (intOf i).toNat)
    case atStart => exact ⟨0, Nat.zero_le _, rfl, rfl, Below.refl _ _⟩
    case round =>
      obtain ⟨k, hk, rfl, htk, hB⟩ := hrel
      by_cases hlt : k < l.length
      · obtain ⟨b, off, ha, hcl⟩ := hc (by omega)
        obtain ⟨b2, off2, ha2, hcl2⟩ := hc2 (by omega)
        subst ha ha2
        have hlt2 : k < l2.length := by omega
        have hi1 : (k : Int) < (l.length : Int) := by omega
        have hi2 : (k : Int) < (l2.length : Int) := by omega
        have hb1 : b < w.heap.size := World.block_lt_of_cell? w _ (hcl k hlt)
        have hb2 : b2 < w.heap.size := World.block_lt_of_cell? w _ (hcl2 k hlt2)
        have c1 := (hB.cell (p := ⟨b, off + k, none⟩) hb1).trans (hcl k hlt)
        have c2 := (hB.cell (p := ⟨b2, off2 + k, none⟩) hb2).trans (hcl2 k hlt2)
        by_cases e : l[k] = l2[k]
        · have HE := Hid.mk' (take_eqZ htk hlt hlt2 e)
          rw [← e] at c2
          generalize l[k] = z at *
          clear hcl hcl2 hc hc2 htk hne e
          have hq : (z == z) = true := beq_self_eq_true _
          go_wp2_with fail
          go_quiet (fail)
          go_wp2_with fail
          go_roundw
          case rel => exact ⟨k + 1, by omega, by go_num, HE.out, by first | exact hB | exact hB.drew | exact below_drewN hB _⟩
          case measure => simp [intOf]; omega
        · have HE : Hid (¬ l = l2) := by
            show ¬ _
            rintro rfl; exact e rfl
          have hq : (l[k] == l2[k]) = false := beq_eq_false_iff_ne.2 e
          generalize l[k] = z at *
          generalize l2[k] = z2 at *
          clear hcl hcl2 hc hc2 htk hne
          go_wp2_with fail
          go_quiet (fail)
          go_wp2_with fail
          go_ret
          exact ⟨ret_bool (by symm; rw [decide_eq_false_iff_not]; exact HE.out), by first | exact hB | exact hB.drew | exact below_drewN hB _⟩
      · have e : k = l.length := by omega
        have hfin : l = l2 := by
          subst e
          rw [List.take_of_length_le (Nat.le_refl _), List.take_of_length_le (by omega)] at htk
          exact htk
        have HF := Hid.mk' hfin
        clear hfin htk
        go_wp2_with fail
        go_ret
        exact ⟨ret_bool (by symm; rw [decide_eq_true_iff]; exact HF.out), hB⟩
  · have hb : ((l.length : Int) == (l2.length : Int)) = false := by simp; omega
    go_enter Try.func76, Try.ntmps76
    go_wp2
    go_ret
    exact ⟨ret_bool (by symm; rw [decide_eq_false_iff_not]; intro h; exact hne (by rw [h])), Below.refl _ _⟩
def marksZ (k0 n : Nat) : List Int := (List.range n).map fun j => ((k0 + j : Nat) : Int)
theorem marksZ_length (k0 n : Nat) : (marksZ k0 n).length = n := by simp [marksZ]
def markZTo (l : List Int) (k0 i : Nat) : List Int := marksZ k0 i ++ l.drop i
theorem markZTo_length (l : List Int) (k0 i : Nat) (h : i ≤ l.length) : (markZTo l k0 i).length = l.length := by simp [markZTo, marksZ]; omega
theorem markZTo_set (l : List Int) (k0 i : Nat) (h : i < l.length) : (markZTo l k0 i).set i ((k0 + i : Nat) : Int) = markZTo l k0 (i + 1) := by
  unfold markZTo marksZ
  rw [List.set_append_right _ _ (by simp)]
  simp only [List.length_map, List.length_range, Nat.sub_self, List.range_succ, List.map_append, List.map_cons, List.map_nil, List.append_assoc]
  congr 1
  rw [List.drop_eq_getElem_cons h]
  rfl
set_option maxRecDepth 100000 in
set_option maxHeartbeats 1000000 in
theorem markIntS (g len cap k0 base : Nat) (l : List Int) (w : World) (h : OwnZ w base g len cap l) (hk0 : k0 + len ≤ 1099511627776) :
    Calls Try.prog 67 #[.slice (some ⟨g, 0, none⟩) len cap, .int .i64 (k0 : Nat)] w fun e w' => e = .returned (.int .i64 ((k0 + len : Nat) : Int)) ∧ OwnZ w' base g len cap (marksZ k0 len) ∧ w.grownBy w' (some g) := by
  have hl := h.1
  subst hl
  go_enter Try.func67, Try.ntmps67
  go_wp2_with fail
  go_loopw [1, 5] (fun kv i wr => ∃ k : Nat, k ≤ l.length ∧ i = .int .i64 k ∧ kv = .int .i64 ((k0 + k : Nat) : Int) ∧ OwnZ wr base g l.length cap (markZTo l k0 k) ∧ w.grownBy wr (some g)) (fun _ i _ => l.length - (intOf i).toNat)
  case atStart => exact ⟨0, Nat.zero_le _, rfl, rfl, by simpa [markZTo, marksZ] using h, World.grownBy.refl _ _⟩
  case round =>
    obtain ⟨k, hk, rfl, rfl, hO, hG⟩ := hrel
    by_cases hlt : k < l.length
    · have hlen : k < (markZTo l k0 k).length := by rw [markZTo_length l k0 k hk]; exact hlt
      have hki : (k : Int) < (l.length : Int) := by omega
      have d0 := hO.at k hlen
      have f0 := hO.frozen k
      have R := ownZ_set hO k ((k0 + k : Nat) : Int)
      rw [markZTo_set l k0 k hlt] at R
      have HR := Hid.mk' R
      have hG2 := grownBy_trans hG R.2
      generalize (markZTo l k0 k)[k] = z at *
      clear R hO hG
      go_wp2_with fail
      go_roundw
      case rel => exact ⟨k + 1, by omega, by go_num, by go_num, HR.out.1, hG2⟩
      case measure => simp [intOf]; omega
    · go_wp2_with fail
      go_ret
      have e : k = l.length := by omega
      subst e
      have : markZTo l k0 l.length = marksZ k0 l.length := by simp [markZTo]
      rw [this] at hO
      exact ⟨rfl, hO, hG⟩



theorem eqO (a a2 : Option Addr) (len cap len2 cap2 : Nat) (l l2 : List Od) (w : World) (h : SlO w a len l) (h2 : SlO w a2 len2 l2) (he : l = l2) :
    Calls Try.prog 66 #[.slice a len cap, .slice a2 len2 cap2] w fun e w' => e = .returned (.bool true) ∧ Below w.heap.size w w' := by
  refine (eqOpS a a2 len cap len2 cap2 l l2 w h h2).mono ?_
  rintro e w' ⟨rfl, hb⟩
  exact ⟨ret_bool (decide_eq_true he), hb⟩
theorem eqZ (a a2 : Option Addr) (len cap len2 cap2 : Nat) (l l2 : List Int) (w : World) (h : SlZ w a len l) (h2 : SlZ w a2 len2 l2) (he : l = l2) :
    Calls Try.prog 76 #[.slice a len cap, .slice a2 len2 cap2] w fun e w' => e = .returned (.bool true) ∧ Below w.heap.size w w' := by
  refine (eqIntS a a2 len cap len2 cap2 l l2 w h h2).mono ?_
  rintro e w' ⟨rfl, hb⟩
  exact ⟨ret_bool (decide_eq_true he), hb⟩
end Go.Proofs.Yteammdkipnfmnaa.ords

namespace Go.Proofs.Yteammdkipnfmnaa.cos
open Go Go.RowKit Go.Proofs.Yteammdkipnfmnaa.base Go.Proofs.Yteammdkipnfmnaa.pairs Go.Proofs.Yteammdkipnfmnaa.ords Go.Proofs.Yteammdkipnfmnaa.lay Go.Proofs.Yteammdkipnfmnaa.wds
set_option linter.unusedVariables false
set_option linter.unusedSimpArgs false

theorem below_two (w : World) (o o2 : Obj) : Below w.heap.size w ((w.alloc o).alloc o2) := ((Below.refl _ _).alloc (Nat.le_refl _) _).alloc (by simp) _
set_option maxRecDepth 100000 in
set_option maxHeartbeats 1000000 in
theorem eqChoiceT (tx : Int) (y : Bool) (w : World) :
    Calls Try.prog 64 #[.agg #[.int .i64 tx, .bool y], .agg #[.int .i64 tx, .bool y]] w fun e w' => e = .returned (.bool true) ∧ Below w.heap.size w w' := by
  have hn : (tx == tx) = true := by simp
  cases y
  all_goals
    go_enter Try.func64, Try.ntmps64
    go_wp2_with fail
    go_ret
    exact ⟨rfl, below_two _ _ _⟩
set_option maxRecDepth 100000 in
set_option maxHeartbeats 2000000 in
theorem eqChoicesT (a a2 : Option Addr) (len cap cap2 : Nat) (l : List Ch) (w : World) (h : SlG chR w a len l) (h2 : SlG chR w a2 len l) :
    Calls Try.prog 44 #[.slice a len cap, .slice a2 len cap2] w fun e w' => e = .returned (.bool true) ∧ Below w.heap.size w w' := by
  have hl := h.1
  have hm := h.2.1
  unfold maxLen at hm
  have hb : ((len : Int) == (len : Int)) = true := by simp
  go_enter Try.func44, Try.ntmps44
  go_wp2_with fail
  go_loopw [5] (fun i wr => ∃ k : Nat, k ≤ len ∧ i = .int .i64 k ∧ Below w.heap.size w wr) (fun i _ => len - (intOf i).toNat)
  case atStart => exact ⟨0, Nat.zero_le _, rfl, Below.refl _ _⟩
  case round =>
    obtain ⟨k, hk, rfl, hB⟩ := hrel
    by_cases hlt : k < len
    · have hltl : k < l.length := by omega
      obtain ⟨b, off, e⟩ := slg_some h (by omega)
      obtain ⟨b2, off2, e2⟩ := slg_some h2 (by omega)
      subst e e2
      have hki : (k : Int) < (len : Int) := by omega
      obtain ⟨c1, c2⟩ := ch_at (h.below hB) k hltl
      obtain ⟨c3, c4⟩ := ch_at (h2.below hB) k hltl
      have o1 := last.On.cell (B := wr.heap.size) c1 (World.block_lt_of_cell? _ _ c1)
      have o2 := last.On.cell (B := wr.heap.size) c2 (World.block_lt_of_cell? _ _ c2)
      have o3 := last.On.cell (B := wr.heap.size) c3 (World.block_lt_of_cell? _ _ c3)
      have o4 := last.On.cell (B := wr.heap.size) c4 (World.block_lt_of_cell? _ _ c4)
      have hinh := last.On.inh wr.heap.size wr
      have hcall : ∀ x : last.On wr.heap.size wr, Calls Try.prog 64 #[.agg #[.int .i64 l[k].1, .bool l[k].2], .agg #[.int .i64 l[k].1, .bool l[k].2]] x.w fun e w' => e = .returned (.bool true) ∧ ∃ y : last.On wr.heap.size wr, w' = y.w := fun x => last.Calls.on x (Nat.le_refl _) (eqChoiceT _ _ x.w)
      clear h h2
      generalize l[k] = p at *
      go_wp2_with fail
      refine last.wp_region_on wr.heap.size (by kernel_rfl) (by kernel_rfl) ?_
      repeat (go_big_quiet_step ((go_at_call 64; exact hcall _)))
      refine wpQuiet_nil ?_
      intro w5 hw5
      obtain ⟨x5, hw5⟩ := hw5
      subst hw5
      have hB5 : Below w.heap.size w x5.w := hB.trans (x5.2.mono hB.size)
      go_wp2_with fail
      go_roundw
      case rel => exact ⟨k + 1, by omega, by go_num, hB5⟩
      case measure => simp [intOf]; omega
    · have hnk : ¬ (k : Int) < (len : Int) := by omega
      go_wp2_with fail
      go_ret
      exact ⟨rfl, hB⟩
set_option maxRecDepth 100000 in
set_option maxHeartbeats 1000000 in
theorem eqJobT (tx st : Int) (oa ob : Option Addr) (ol oc bl bc : Nat) (ya yb : Option Addr) (yl yc zl zc : Nat) (ops : List Od) (yes : List Int) (w : World) (h1 : SlO w oa ol ops) (h2 : SlO w ob bl ops) (h3 : SlZ w ya yl yes) (h4 : SlZ w yb zl yes) :
    Calls Try.prog 63 #[.agg #[.int .i64 tx, .slice oa ol oc, .int .i64 st, .slice ya yl yc], .agg #[.int .i64 tx, .slice ob bl bc, .int .i64 st, .slice yb zl zc]] w fun e w' => e = .returned (.bool true) ∧ Below w.heap.size w w' := by
  obtain ⟨W, hW⟩ : ∃ W, (w.alloc (.cells #[.int .i64 tx, .slice oa ol oc, .int .i64 st, .slice ya yl yc] 118)).alloc (.cells #[.int .i64 tx, .slice ob bl bc, .int .i64 st, .slice yb zl zc] 118) = W := ⟨_, rfl⟩
  have hB : Below w.heap.size w W := by rw [← hW]; exact below_two _ _ _
  have hx : BoxJ w.heap.size tx st (.slice oa ol oc) (.slice ya yl yc) W := by rw [← hW]; exact BoxJ.below (heap_alloc_new w _) (below_new _ _)
  have hy : BoxJ (w.heap.size + 1) tx st (.slice ob bl bc) (.slice yb zl zc) W := by
    rw [← hW]
    have := heap_alloc_new (w.alloc (.cells #[.int .i64 tx, .slice oa ol oc, .int .i64 st, .slice ya yl yc] 118)) (.cells #[.int .i64 tx, .slice ob bl bc, .int .i64 st, .slice yb zl zc] 118)
    have e : (w.alloc (.cells #[.int .i64 tx, .slice oa ol oc, .int .i64 st, .slice ya yl yc] 118)).heap.size = w.heap.size + 1 := by simp
    rw [e] at this; exact this
  have HO := Hid.mk' (eqO oa ob ol oc bl bc ops ops W (h1.below hB) (h2.below hB) rfl)
  have HZ := Hid.mk' (fun wx (hx : Below W.heap.size W wx) => eqZ ya yb yl yc zl zc yes yes wx ((h3.below hB).below hx) ((h4.below hB).below hx) rfl)
  have HW := Hid.mk' hW
  have hn : (tx == tx) = true := by simp
  have hs : (st == st) = true := by simp
  clear hW h1 h2 h3 h4
  go_enter Try.func63, Try.ntmps63
  go_wp2_with fail
  rw [HW.out]
  refine HO.out.mono ?_
  rintro e w1 ⟨rfl, hb1⟩
  have hB1 := hB.trans (hb1.mono hB.size)
  obtain ⟨x0, x1, x2, x3⟩ := (hx.below hb1).cells
  obtain ⟨y0, y1, y2, y3⟩ := (hy.below hb1).cells
  clear HO HW hx hy
  go_wp2_with fail
  refine (HZ.out _ hb1).mono ?_
  rintro e w2 ⟨rfl, hb2⟩
  have hB2 := hB1.trans (hb2.mono hB1.size)
  clear HZ x0 x1 x2 x3 y0 y1 y2 y3
  go_wp2_with fail
  go_ret
  exact ⟨rfl, hB2⟩
set_option maxRecDepth 100000 in
set_option maxHeartbeats 2000000 in
theorem eqJobsT (a a2 : Option Addr) (len cap cap2 : Nat) (l : List Jb) (w : World) (h : SlG jobR w a len l) (h2 : SlG jobR w a2 len l) :
    Calls Try.prog 43 #[.slice a len cap, .slice a2 len cap2] w fun e w' => e = .returned (.bool true) ∧ Below w.heap.size w w' := by
  have hl := h.1
  have hm := h.2.1
  unfold maxLen at hm
  have hb : ((len : Int) == (len : Int)) = true := by simp
  go_enter Try.func43, Try.ntmps43
  go_wp2_with fail
  go_loopw [5] (fun i wr => ∃ k : Nat, k ≤ len ∧ i = .int .i64 k ∧ Below w.heap.size w wr) (fun i _ => len - (intOf i).toNat)
  case atStart => exact ⟨0, Nat.zero_le _, rfl, Below.refl _ _⟩
  case round =>
    obtain ⟨k, hk, rfl, hB⟩ := hrel
    by_cases hlt : k < len
    · have hltl : k < l.length := by omega
      obtain ⟨b, off, e⟩ := slg_some h (by omega)
      obtain ⟨b2, off2, e2⟩ := slg_some h2 (by omega)
      subst e e2
      have hki : (k : Int) < (len : Int) := by omega
      obtain ⟨c0, c2, ⟨oa, ol, oc, c1, hO1, _⟩, ya, yl, yc, c3, hY1, _⟩ := job_at (h.below hB) k hltl
      obtain ⟨d0, d2, ⟨ob, bl, bc, d1, hO2, _⟩, yb, zl, zc, d3, hY2, _⟩ := job_at (h2.below hB) k hltl
      have o0 := last.On.cell (B := wr.heap.size) c0 (World.block_lt_of_cell? _ _ c0)
      have o1 := last.On.cell (B := wr.heap.size) c1 (World.block_lt_of_cell? _ _ c1)
      have o2 := last.On.cell (B := wr.heap.size) c2 (World.block_lt_of_cell? _ _ c2)
      have o3 := last.On.cell (B := wr.heap.size) c3 (World.block_lt_of_cell? _ _ c3)
      have p0 := last.On.cell (B := wr.heap.size) d0 (World.block_lt_of_cell? _ _ d0)
      have p1 := last.On.cell (B := wr.heap.size) d1 (World.block_lt_of_cell? _ _ d1)
      have p2 := last.On.cell (B := wr.heap.size) d2 (World.block_lt_of_cell? _ _ d2)
      have p3 := last.On.cell (B := wr.heap.size) d3 (World.block_lt_of_cell? _ _ d3)
      have hinh := last.On.inh wr.heap.size wr
      have hcall : ∀ x : last.On wr.heap.size wr, Calls Try.prog 63 #[.agg #[.int .i64 l[k].1, .slice oa ol oc, .int .i64 l[k].2.2.1, .slice ya yl yc], .agg #[.int .i64 l[k].1, .slice ob bl bc, .int .i64 l[k].2.2.1, .slice yb zl zc]] x.w fun e w' => e = .returned (.bool true) ∧ ∃ y : last.On wr.heap.size wr, w' = y.w := fun x => last.Calls.on x (Nat.le_refl _) (eqJobT _ _ oa ob ol oc bl bc ya yb yl yc zl zc l[k].2.1 l[k].2.2.2 x.w (hO1.below x.2) (hO2.below x.2) (hY1.below x.2) (hY2.below x.2))
      clear h h2 hO1 hO2 hY1 hY2
      generalize l[k] = p at *
      go_wp2_with fail
      refine last.wp_region_on wr.heap.size (by kernel_rfl) (by kernel_rfl) ?_
      repeat (go_big_quiet_step ((go_at_call 63; exact hcall _)))
      refine wpQuiet_nil ?_
      intro w5 hw5
      obtain ⟨x5, hw5⟩ := hw5
      subst hw5
      have hB5 : Below w.heap.size w x5.w := hB.trans (x5.2.mono hB.size)
      go_wp2_with fail
      go_roundw
      case rel => exact ⟨k + 1, by omega, by go_num, hB5⟩
      case measure => simp [intOf]; omega
    · have hnk : ¬ (k : Int) < (len : Int) := by omega
      go_wp2_with fail
      go_ret
      exact ⟨rfl, hB⟩
set_option maxRecDepth 100000 in
set_option maxHeartbeats 2000000 in
theorem eqCoordT (ja jb : Option Addr) (jn jc jm jd : Nat) (la lb : Option Addr) (ln lc lm ld : Nat) (c : Co) (w : World) (h1 : SeeCo w ja jn jc la ln lc c) (h2 : SeeCo w jb jm jd lb lm ld c) :
    Calls Try.prog 22 #[coV c.1 c.2.1 c.2.2.1 c.2.2.2.2.2 ja jn jc la ln lc, coV c.1 c.2.1 c.2.2.1 c.2.2.2.2.2 jb jm jd lb lm ld] w fun e w' => e = .returned (.bool true) ∧ Below w.heap.size w w' := by
  have e1 : jm = jn := h2.jobs.1.symm.trans h1.jobs.1
  have e2 : lm = ln := h2.log.1.symm.trans h1.log.1
  subst e1 e2
  obtain ⟨W, hW⟩ : ∃ W, (w.alloc (coO c.1 c.2.1 c.2.2.1 c.2.2.2.2.2 ja jm jc la lm lc)).alloc (coO c.1 c.2.1 c.2.2.1 c.2.2.2.2.2 jb jm jd lb lm ld) = W := ⟨_, rfl⟩
  have hB : Below w.heap.size w W := by rw [← hW]; exact below_two _ _ _
  have hx : BoxC w.heap.size c.1 c.2.1 c.2.2.1 c.2.2.2.2.2 ja jm jc la lm lc W := by rw [← hW]; exact BoxC.below (boxC_new w _ _ _ _ _ _ _ _ _ _) (below_new _ _)
  have hy : BoxC (w.heap.size + 1) c.1 c.2.1 c.2.2.1 c.2.2.2.2.2 jb jm jd lb lm ld W := by
    rw [← hW]
    have := boxC_new (w.alloc (coO c.1 c.2.1 c.2.2.1 c.2.2.2.2.2 ja jm jc la lm lc)) c.1 c.2.1 c.2.2.1 c.2.2.2.2.2 jb jm jd lb lm ld
    have e : (w.alloc (coO c.1 c.2.1 c.2.2.1 c.2.2.2.2.2 ja jm jc la lm lc)).heap.size = w.heap.size + 1 := by simp
    rw [e] at this; exact this
  have HJ := Hid.mk' (eqJobsT ja jb jm jc jd c.2.2.2.1 W (h1.jobs.below hB) (h2.jobs.below hB))
  have HL := Hid.mk' (fun wx (hx : Below W.heap.size W wx) => eqChoicesT la lb lm lc ld c.2.2.2.2.1 wx ((h1.log.below hB).below hx) ((h2.log.below hB).below hx))
  have HW := Hid.mk' hW
  clear hW h1 h2
  generalize c.1 = n at *
  generalize c.2.1 = life at *
  generalize c.2.2.1 = next at *
  generalize c.2.2.2.2.2 = sure at *
  have n1 : (n == n) = true := by simp
  have n2 : (life == life) = true := by simp
  have n3 : (next == next) = true := by simp
  have n4 : (sure == sure) = true := by simp
  go_enter Try.func22, Try.ntmps22
  go_wp2_with fail
  rw [HW.out]
  refine HJ.out.mono ?_
  rintro e w1 ⟨rfl, hb1⟩
  have hB1 := hB.trans (hb1.mono hB.size)
  obtain ⟨x0, x1, x2, x3, x4, x5⟩ := (hx.below hb1).cells
  obtain ⟨y0, y1, y2, y3, y4, y5⟩ := (hy.below hb1).cells
  clear HJ HW
  go_wp2_with fail
  refine (HL.out _ hb1).mono ?_
  rintro e w2 ⟨rfl, hb2⟩
  have hb3 := hb1.trans (hb2.mono hb1.size)
  have hB2 := hB1.trans (hb2.mono hB1.size)
  clear HL x0 x1 x2 x3 x4 x5 y0 y1 y2 y3 y4 y5
  obtain ⟨x0, x1, x2, x3, x4, x5⟩ := (hx.below hb3).cells
  obtain ⟨y0, y1, y2, y3, y4, y5⟩ := (hy.below hb3).cells
  go_wp2_with fail
  go_ret
  exact ⟨rfl, hB2⟩
end Go.Proofs.Yteammdkipnfmnaa.cos
