/- The laws' own helpers on orders: what each call does. Rows of whole numbers: small facts on worlds; no function of the program is named here. The laws' marks on orders and on rows of numbers, and orders that are the same. The laws' helpers for one record: its size, alike, marked, held. The laws' helpers for records: alike, marked, held. -/
import Derived.Test.YteniflajiklffaaShac
import Derived.Test.YteniflajiklffaaShaa
import Derived.OwnWalk
namespace Go.Proofs.Yteniflajiklffaa.ords
open Go Go.RowKit Go.Proofs.Yteniflajiklffaa.base Go.Proofs.Yteniflajiklffaa.helps Go.Proofs.Yteniflajiklffaa.pairs
set_option linter.unusedVariables false
set_option linter.unusedSimpArgs false

set_option maxHeartbeats 400000 in
theorem toOp (z : Int) (k v : ByteArray) (w : World) :
    Calls Try.prog 124 #[.agg #[.int .i64 z, .string k, .string v]] w fun e w' => e = .returned (.agg #[.int .i64 z, .string k, .string v]) ∧ Below w.heap.size w w' := by
  go_enter Try.func124, Try.ntmps124
  have hB : Below w.heap.size w (((w.alloc (.cells #[.int .i64 z, .string k, .string v] 166)).alloc (.cells #[.int .i64 z, .string k, .string v] 111)).alloc (.cells #[.int .i64 z, .string k, .string v] 111)) :=
    (((Below.refl _ _).alloc (Nat.le_refl _) _).alloc (by simp) _).alloc (by simp; omega) _
  go_wp2
  refine bodyPost_ret (v := .agg #[.int .i64 z, .string k, .string v]) ?h1 rfl ⟨rfl, hB⟩
  simp [results, Try.results124, go_sem]

theorem take_snocO (l : List Od) (k : Nat) (h : k < l.length) : l.take (k + 1) = l.take k ++ [l[k]] := List.take_succ_eq_append_getElem h
def osz (o : Od) : Nat := o.2.1.size + o.2.2.size
def sumO (l : List Od) : Nat := (l.map osz).sum
theorem sumO_take (l : List Od) (k : Nat) (h : k < l.length) : sumO (l.take (k + 1)) = sumO (l.take k) + osz l[k] := by
  unfold sumO; rw [take_snocO l k h, List.map_append, List.sum_append]; simp
theorem sumO_le (l : List Od) (k : Nat) : sumO (l.take k) ≤ sumO l := by
  have e : sumO l = sumO (l.take k) + sumO (l.drop k) := by
    unfold sumO; rw [← List.sum_append, ← List.map_append, List.take_append_drop]
  omega
theorem osz_le (l : List Od) : ∀ o ∈ l, osz o ≤ sumO l := by
  induction l with
  | nil => intro s h; exact absurd h List.not_mem_nil
  | cons x l ih =>
    intro s h
    simp only [sumO, List.map_cons, List.sum_cons] at *
    rcases List.mem_cons.1 h with h | h
    · subst h; omega
    · have := ih s h; omega

set_option maxHeartbeats 400000 in
theorem szOp (p : Od) (L : Nat) (w : World) (hp : smallO p) (hL : L ≤ 1099511627776) :
    Calls Try.prog 120 #[.agg #[.int .i64 p.1, .string p.2.1, .string p.2.2], .int .i64 (L : Int)] w fun e w' => e = .returned (.int .i64 (szR L (osz p))) ∧ Below w.heap.size w w' := by
  have h1 := hp.2.1
  have h2 := hp.2.2
  unfold maxLen at h1 h2
  have hB : Below w.heap.size w (w.alloc (.cells #[.int .i64 p.1, .string p.2.1, .string p.2.2] 166)) := (Below.refl _ _).alloc (Nat.le_refl _) _
  by_cases a1 : L < p.2.1.size
  · have a2 : (L : Int) - (p.2.1.size : Int) < 0 := by omega
    have HZ : Hid (szR L (osz p) = -1) := szR_neg (by unfold osz; omega)
    go_enter Try.func120, Try.ntmps120
    go_wp2
    go_ret
    exact ⟨ret_int HZ.out.symm, hB⟩
  · have a2 : ¬ (L : Int) - (p.2.1.size : Int) < 0 := by omega
    by_cases a3 : L < p.2.1.size + p.2.2.size
    · have a4 : (L : Int) - (p.2.1.size : Int) - (p.2.2.size : Int) < 0 := by omega
      have HZ : Hid (szR L (osz p) = -1) := szR_neg (by unfold osz; omega)
      go_enter Try.func120, Try.ntmps120
      go_wp2
      go_ret
      exact ⟨ret_int HZ.out.symm, hB⟩
    · have a4 : ¬ (L : Int) - (p.2.1.size : Int) - (p.2.2.size : Int) < 0 := by omega
      have HZ : Hid (szR L (osz p) = (L : Int) - (p.2.1.size : Int) - (p.2.2.size : Int)) := by show _ = _; rw [szR_pos (by unfold osz; omega)]; unfold osz; omega
      go_enter Try.func120, Try.ntmps120
      go_wp2
      go_ret
      exact ⟨ret_int HZ.out.symm, hB⟩

set_option maxHeartbeats 400000 in
theorem eqOp (p q : Od) (w : World) :
    Calls Try.prog 128 #[.agg #[.int .i64 p.1, .string p.2.1, .string p.2.2], .agg #[.int .i64 q.1, .string q.2.1, .string q.2.2]] w fun e w' => e = .returned (.bool (decide (p = q))) ∧ Below w.heap.size w w' := by
  have hB : Below w.heap.size w ((w.alloc (.cells #[.int .i64 p.1, .string p.2.1, .string p.2.2] 111)).alloc (.cells #[.int .i64 q.1, .string q.2.1, .string q.2.2] 111)) := ((Below.refl _ _).alloc (Nat.le_refl _) _).alloc (by simp) _
  obtain ⟨p0, p1, p2⟩ := p
  obtain ⟨q0, q1, q2⟩ := q
  by_cases e0 : p0 = q0
  · subst e0
    have h0 : (p0 == p0) = true := beq_self_eq_true _
    by_cases e1 : p1 = q1
    · subst e1
      by_cases e2 : p2 = q2
      · subst e2
        go_enter Try.func128, Try.ntmps128
        go_wp2
        go_ret
        exact ⟨ret_bool (by simp), hB⟩
      · have hq := str_ne e2
        have HE := Hid.mk' e2
        clear e2
        go_enter Try.func128, Try.ntmps128
        go_wp2
        go_ret
        exact ⟨ret_bool (by have := HE.out; simp [this]), hB⟩
    · have hq := str_ne e1
      have HE := Hid.mk' e1
      clear e1
      go_enter Try.func128, Try.ntmps128
      go_wp2
      go_ret
      exact ⟨ret_bool (by have := HE.out; simp [this]), hB⟩
  · have h0 : (p0 == q0) = false := beq_eq_false_iff_ne.2 e0
    have HE := Hid.mk' e0
    clear e0
    go_enter Try.func128, Try.ntmps128
    go_wp2
    go_ret
    exact ⟨ret_bool (by have := HE.out; simp [this]), hB⟩

def zeroO : Od := (0, ⟨#[]⟩, ⟨#[]⟩)
def copyO (l : List Od) (k : Nat) : List Od := l.take k ++ List.replicate (l.length - k) zeroO
theorem copyO_length (l : List Od) (k : Nat) (h : k ≤ l.length) : (copyO l k).length = l.length := by simp [copyO]; omega
theorem copyO_zero (l : List Od) : copyO l 0 = List.replicate l.length zeroO := by simp [copyO]
theorem copyO_all (l : List Od) : copyO l l.length = l := by simp [copyO]
theorem copyO_small (l : List Od) (k : Nat) (h : ∀ p ∈ l, smallO p) : ∀ p ∈ copyO l k, smallO p := by
  intro p hp
  rcases List.mem_append.1 hp with h1 | h1
  · exact h p (List.mem_of_mem_take h1)
  · obtain rfl := (List.mem_replicate.1 h1).2; exact ⟨rfl, Nat.zero_le _, Nat.zero_le _⟩
theorem copyO_set (l : List Od) (k : Nat) (h : k < l.length) : (copyO l k).set k l[k] = copyO l (k + 1) := by
  unfold copyO
  rw [List.set_append_right _ _ (by simp; omega), take_snocO l k h, List.append_assoc]
  congr 1
  rw [List.length_take_of_le (by omega), Nat.sub_self, show l.length - k = l.length - (k + 1) + 1 by omega, List.replicate_succ]
  rfl
theorem ordVals_rep (n : Nat) : ordVals (List.replicate n zeroO) = (madeCells #[.int .i64 0, .string ⟨#[]⟩, .string ⟨#[]⟩] (n * 3)).toList := by
  apply List.ext_getElem
  · rw [ordVals_length]; simp [madeCells]
  · intro j h1 h2
    rw [ordVals_length, List.length_replicate] at h1
    obtain ⟨e0, e1, e2⟩ := ordVals_at (List.replicate n zeroO) (j / 3) (by simp; omega)
    rw [← Option.some_inj, ← List.getElem?_eq_getElem]
    have hm : j = j / 3 * 3 ∨ j = j / 3 * 3 + 1 ∨ j = j / 3 * 3 + 2 := by omega
    rcases hm with hm | hm | hm
    · have h3 : j % 3 = 0 := by omega
      conv => lhs; rw [hm, e0]
      simp [madeCells, h3, zeroO]
    · have h3 : j % 3 = 1 := by omega
      conv => lhs; rw [hm, e1]
      simp [madeCells, h3, zeroO]
    · have h3 : j % 3 = 2 := by omega
      conv => lhs; rw [hm, e2]
      simp [madeCells, h3, zeroO]

set_option maxRecDepth 100000 in
set_option maxHeartbeats 1000000 in
theorem toOpS (a : Option Addr) (len cap : Nat) (l : List Od) (w : World) (h : SlO w a len l) (hsz : len ≤ 1099511627776) :
    Calls Try.prog 84 #[.slice a len cap] w fun e w' => ∃ g, e = .returned (.slice (some ⟨g, 0, none⟩) len len) ∧ OwnO w' w.heap.size g len len l ∧ Below w.heap.size w w' := by
  obtain ⟨hl, hm, hsm, hc⟩ := h
  subst hl
  have hm' := hm
  unfold maxLen at hm'
  obtain ⟨i0, hif, hz0, hz1, hz2⟩ := info_parts infoO
  go_enter Try.func84, Try.ntmps84
  go_wp2_with (at_make; refine wpList_make_full _ rfl _ _ 28 rfl w.heap.size 111 i0 (.agg #[.int .i64 0, .string ⟨#[]⟩, .string ⟨#[]⟩]) 3 Try.underlying28 hif hz0 hz1 _ _ _ _ l.length rfl rfl rfl rfl ?b2 ?b3 ?b4 ?_)
  case b2 => rw [hz2]; omega
  case b3 => exact hm
  case b4 => exact Nat.le_refl _
  intro w1 hown hgrow
  have hOwn : OwnO w1 w.heap.size w.heap.size l.length l.length (copyO l 0) := by
    refine ⟨copyO_length l 0 (Nat.zero_le _), copyO_small l 0 hsm, ?_⟩
    rw [copyO_zero, ordVals_rep]; exact hown
  have hbel : Below w.heap.size w w1 := (Below.refl _ _).grown hgrow (Nat.le_refl _) (fun k e => by cases e)
  clear hown hgrow hif hz0 hz1 hz2
  go_wp2_with fail
  go_loopw [4] (fun i wr => ∃ k : Nat, k ≤ l.length ∧ i = .int .i64 k ∧ OwnO wr w.heap.size w.heap.size l.length l.length (copyO l k) ∧ Below w.heap.size w wr) (fun i _ => l.length - (intOf i).toNat)
  case atStart => exact ⟨0, Nat.zero_le _, rfl, hOwn, hbel⟩
  case round =>
    clear hOwn hbel
    obtain ⟨k, hk, rfl, hO, hB⟩ := hrel
    by_cases hlt : k < l.length
    · obtain ⟨b, off, ha, hcl⟩ := hc (by omega)
      subst ha
      have hbb : b < w.heap.size := World.block_lt_of_cell? w _ (hcl k hlt).1
      have c0 : wr.cell? ⟨b, off + k * 3, none⟩ = some (.int .i64 l[k].1) := (hB.cell (p := ⟨b, off + k * 3, none⟩) hbb).trans (hcl k hlt).1
      have c1 : wr.cell? ⟨b, off + k * 3 + 1, none⟩ = some (.string l[k].2.1) := (hB.cell (p := ⟨b, off + k * 3 + 1, none⟩) hbb).trans (hcl k hlt).2.1
      have c2 : wr.cell? ⟨b, off + k * 3 + 2, none⟩ = some (.string l[k].2.2) := (hB.cell (p := ⟨b, off + k * 3 + 2, none⟩) hbb).trans (hcl k hlt).2.2
      have hpk := hsm _ (List.getElem_mem hlt)
      have hki : (k : Int) < (l.length : Int) := by omega
      have HS := Hid.mk' (copyO_set l k hlt)
      generalize l[k] = p at *
      clear hcl hc
      go_wp2_with fail
      refine (toOp p.1 p.2.1 p.2.2 _).mono ?_
      rintro e w2 ⟨rfl, hB2⟩
      have hO2 := hO.below hB2
      have hB3 := hB.trans (hB2.mono hB.size)
      have hkl : k < (copyO l k).length := by rw [copyO_length l k hk]; exact hlt
      have d0 := hO2.kind k hkl
      have d1 := hO2.key k hkl
      have d2 := hO2.val k hkl
      have f0 := hO2.frozen (k * 3)
      have f1 := hO2.frozen (k * 3 + 1)
      have f2 := hO2.frozen (k * 3 + 2)
      have R := hO2.setAll k hkl p.1 p.2.1 p.2.2 hpk.1 hpk.2.1 hpk.2.2
      rw [HS.out] at R
      have HR := Hid.mk' R
      generalize (copyO l k)[k].1 = z0 at *
      generalize (copyO l k)[k].2.1 = z1 at *
      generalize (copyO l k)[k].2.2 = z2 at *
      clear R hO hO2 hB hB2 c0 c1 c2
      go_wp2_with fail
      go_roundw
      case rel => exact ⟨k + 1, by omega, by go_num, HR.out.1, hB3.trans (below_grown HR.out.2 (Nat.le_refl _) hB3.size)⟩
      case measure => simp [intOf]; omega
    · go_wp2_with fail
      go_ret
      have e : k = l.length := by omega
      subst e
      rw [copyO_all] at hO
      exact ⟨_, rfl, hO, hB⟩

set_option maxRecDepth 100000 in
set_option maxHeartbeats 1000000 in
theorem szOpS (a : Option Addr) (len cap : Nat) (l : List Od) (L : Nat) (w : World) (h : SlO w a len l) (hL : L ≤ 1099511627776) :
    Calls Try.prog 76 #[.slice a len cap, .int .i64 (L : Int)] w fun e w' => e = .returned (.int .i64 (szR L (l.length + sumO l))) ∧ Below w.heap.size w w' := by
  obtain ⟨hl, hm, hsm, hc⟩ := h
  subst hl
  unfold maxLen at hm
  by_cases hneg : L < l.length
  · rw [szR_neg (by omega)]
    have h1 : (L : Int) - (l.length : Int) < 0 := by omega
    go_enter Try.func76, Try.ntmps76
    go_wp2
    go_ret
    exact ⟨rfl, Below.refl _ _⟩
  · have h1 : ¬ (L : Int) - (l.length : Int) < 0 := by omega
    go_enter Try.func76, Try.ntmps76
    go_wp2_with fail
    go_loopw [1, 5] (fun lv i wr => ∃ k m : Nat, k ≤ l.length ∧ i = .int .i64 (k : Int) ∧ lv = .int .i64 (m : Int) ∧ m + (l.length + sumO (l.take k)) = L ∧ Below w.heap.size w wr) (fun _ i _ => l.length - (intOf i).toNat)
    case atStart => exact ⟨0, L - l.length, Nat.zero_le _, rfl, by go_num, by simp [sumO]; omega, Below.refl _ _⟩
    case round =>
      obtain ⟨k, m, hk, rfl, rfl, hmL, hB⟩ := hrel
      by_cases hlt : k < l.length
      · obtain ⟨b, off, ha, hcl⟩ := hc (by omega)
        subst ha
        have hst := sumO_take l k hlt
        have hle := sumO_le l (k + 1)
        have hbb : b < w.heap.size := World.block_lt_of_cell? w _ (hcl k hlt).1
        have c0 : wr.cell? ⟨b, off + k * 3, none⟩ = some (.int .i64 l[k].1) := (hB.cell (p := ⟨b, off + k * 3, none⟩) hbb).trans (hcl k hlt).1
        have c1 : wr.cell? ⟨b, off + k * 3 + 1, none⟩ = some (.string l[k].2.1) := (hB.cell (p := ⟨b, off + k * 3 + 1, none⟩) hbb).trans (hcl k hlt).2.1
        have c2 : wr.cell? ⟨b, off + k * 3 + 2, none⟩ = some (.string l[k].2.2) := (hB.cell (p := ⟨b, off + k * 3 + 2, none⟩) hbb).trans (hcl k hlt).2.2
        have hpk := hsm _ (List.getElem_mem hlt)
        have hi1 : (k : Int) < (l.length : Int) := by omega
        have hmB : m ≤ 1099511627776 := by omega
        have HML := Hid.mk' hmL
        have HST := Hid.mk' hst
        have HLE := Hid.mk' hle
        generalize l[k] = p at *
        clear hcl hc hsm hmL hst hle
        have hcall := szOp p m wr hpk hmB
        by_cases hover : m < osz p
        · rw [szR_neg hover] at hcall
          have HC := Hid.mk' hcall
          clear hcall
          go_wp2_with fail
          refine HC.out.mono ?_
          rintro e w2 ⟨rfl, hB2⟩
          go_wp2_with fail
          go_ret
          have e1 := HML.out
          have e2 := HST.out
          have e3 := HLE.out
          rw [szR_neg (by omega)]
          exact ⟨rfl, hB.trans (hB2.mono hB.size)⟩
        · rw [szR_pos (by omega), show (m : Int) - (osz p : Int) = ((m - osz p : Nat) : Int) by omega] at hcall
          have HC := Hid.mk' hcall
          obtain ⟨m2, hm2⟩ : ∃ m2, m - osz p = m2 := ⟨_, rfl⟩
          rw [hm2] at HC
          have HM2 := Hid.mk' hm2
          have hm2b : m2 ≤ 1099511627776 := by omega
          clear hcall hm2
          go_wp2_with fail
          refine HC.out.mono ?_
          rintro e w2 ⟨rfl, hB2⟩
          go_wp2_with fail
          go_roundw
          case rel => exact ⟨k + 1, m2, by omega, by go_num, rfl, by have e1 := HML.out; have e2 := HST.out; have e3 := HM2.out; omega, hB.trans (hB2.mono hB.size)⟩
          case measure => simp [intOf]; omega
      · have e : k = l.length := by omega
        have HML := Hid.mk' hmL
        clear hmL
        go_wp2_with fail
        go_ret
        have e1 := HML.out
        rw [e, List.take_length] at e1
        rw [szR_pos (by omega)]
        exact ⟨ret_int (by omega), hB⟩

theorem take_eqO {l l2 : List Od} {k : Nat} (h : l.take k = l2.take k) (h1 : k < l.length) (h2 : k < l2.length) (e : l[k] = l2[k]) : l.take (k + 1) = l2.take (k + 1) := by
  rw [take_snocO l k h1, take_snocO l2 k h2, h, e]
set_option maxRecDepth 100000 in
set_option maxHeartbeats 1000000 in
theorem eqOpS (a a2 : Option Addr) (len cap len2 cap2 : Nat) (l l2 : List Od) (w : World) (h : SlO w a len l) (h2 : SlO w a2 len2 l2) :
    Calls Try.prog 90 #[.slice a len cap, .slice a2 len2 cap2] w fun e w' => e = .returned (.bool (decide (l = l2))) ∧ Below w.heap.size w w' := by
  obtain ⟨hl, hm, _, hc⟩ := h
  obtain ⟨hl2, hm2, _, hc2⟩ := h2
  subst hl hl2
  unfold maxLen at hm hm2
  by_cases hne : l.length = l2.length
  · have hb : ((l.length : Int) == (l2.length : Int)) = true := by simp; omega
    go_enter Try.func90, Try.ntmps90
    go_wp2_with fail
    go_loopw [5] (fun i wr => ∃ k : Nat, k ≤ l.length ∧ i = .int .i64 k ∧ l.take k = l2.take k ∧ Below w.heap.size w wr) (fun i _ => l.length - (intOf i).toNat)
    case atStart => exact ⟨0, Nat.zero_le _, rfl, rfl, Below.refl _ _⟩
    case round =>
      obtain ⟨k, hk, rfl, htk, hB⟩ := hrel
      by_cases hlt : k < l.length
      · obtain ⟨b, off, ha, hcl⟩ := hc (by omega)
        obtain ⟨b2, off2, ha2, hcl2⟩ := hc2 (by omega)
        subst ha ha2
        have hlt2 : k < l2.length := by omega
        have hi1 : (k : Int) < (l.length : Int) := by omega
        have hi2 : (k : Int) < (l2.length : Int) := by omega
        have HT := Hid.mk' htk
        have hb1 : b < w.heap.size := World.block_lt_of_cell? w _ (hcl k hlt).1
        have hb2 : b2 < w.heap.size := World.block_lt_of_cell? w _ (hcl2 k hlt2).1
        have c0 := (hB.cell (p := ⟨b, off + k * 3, none⟩) hb1).trans (hcl k hlt).1
        have c1 := (hB.cell (p := ⟨b, off + k * 3 + 1, none⟩) hb1).trans (hcl k hlt).2.1
        have c2 := (hB.cell (p := ⟨b, off + k * 3 + 2, none⟩) hb1).trans (hcl k hlt).2.2
        have d0 := (hB.cell (p := ⟨b2, off2 + k * 3, none⟩) hb2).trans (hcl2 k hlt2).1
        have d1 := (hB.cell (p := ⟨b2, off2 + k * 3 + 1, none⟩) hb2).trans (hcl2 k hlt2).2.1
        have d2 := (hB.cell (p := ⟨b2, off2 + k * 3 + 2, none⟩) hb2).trans (hcl2 k hlt2).2.2
        have oc0 := last.On.cell (B := wr.heap.size) c0 (by have := hB.size; omega)
        have oc1 := last.On.cell (B := wr.heap.size) c1 (by have := hB.size; omega)
        have oc2 := last.On.cell (B := wr.heap.size) c2 (by have := hB.size; omega)
        have od0 := last.On.cell (B := wr.heap.size) d0 (by have := hB.size; omega)
        have od1 := last.On.cell (B := wr.heap.size) d1 (by have := hB.size; omega)
        have od2 := last.On.cell (B := wr.heap.size) d2 (by have := hB.size; omega)
        have hinh := last.On.inh wr.heap.size wr
        have hcall : ∀ x : last.On wr.heap.size wr, Calls Try.prog 128 #[.agg #[.int .i64 l[k].1, .string l[k].2.1, .string l[k].2.2], .agg #[.int .i64 l2[k].1, .string l2[k].2.1, .string l2[k].2.2]] x.w fun e w' => e = .returned (.bool (decide (l[k] = l2[k]))) ∧ ∃ y : last.On wr.heap.size wr, w' = y.w := fun x => last.Calls.on x (Nat.le_refl _) (eqOp l[k] l2[k] x.w)
        by_cases e : l[k] = l2[k]
        · rw [decide_eq_true e] at hcall
          have HE := Hid.mk' (take_eqO htk hlt hlt2 e)
          clear hcl hcl2 hc hc2 htk hne e
          generalize l[k] = p at *
          generalize l2[k] = q at *
          go_wp2_with fail
          refine last.wp_region_on wr.heap.size (by kernel_rfl) (by kernel_rfl) ?_
          repeat (go_big_quiet_step ((go_at_call 128; exact hcall _)))
          refine wpQuiet_nil ?_
          intro w5 hw5
          obtain ⟨x5, hw5⟩ := hw5
          subst hw5
          have hB5 : Below w.heap.size w x5.w := hB.trans (x5.2.mono hB.size)
          go_wp2_with fail
          go_roundw
          case rel => exact ⟨k + 1, by omega, by go_num, HE.out, hB5⟩
          case measure => simp [intOf]; omega
        · rw [decide_eq_false e] at hcall
          have HE : Hid (¬ l = l2) := by
            show ¬ _
            rintro rfl; exact e rfl
          clear hcl hcl2 hc hc2 htk hne e
          generalize l[k] = p at *
          generalize l2[k] = q at *
          go_wp2_with fail
          refine last.wp_region_on wr.heap.size (by kernel_rfl) (by kernel_rfl) ?_
          repeat (go_big_quiet_step ((go_at_call 128; exact hcall _)))
          refine wpQuiet_nil ?_
          intro w5 hw5
          obtain ⟨x5, hw5⟩ := hw5
          subst hw5
          have hB5 : Below w.heap.size w x5.w := hB.trans (x5.2.mono hB.size)
          go_wp2_with fail
          go_ret
          exact ⟨ret_bool (by symm; rw [decide_eq_false_iff_not]; exact HE.out), hB5⟩
      · have e : k = l.length := by omega
        have hfin : l = l2 := by
          subst e
          rw [List.take_of_length_le (Nat.le_refl _), List.take_of_length_le (by omega)] at htk
          exact htk
        have HF := Hid.mk' hfin
        clear hfin htk
        go_wp2_with fail
        go_ret
        exact ⟨ret_bool (by symm; rw [decide_eq_true_iff]; exact HF.out), hB⟩
  · have hb : ((l.length : Int) == (l2.length : Int)) = false := by simp; omega
    go_enter Try.func90, Try.ntmps90
    go_wp2
    go_ret
    exact ⟨ret_bool (by symm; rw [decide_eq_false_iff_not]; intro h; exact hne (by rw [h])), Below.refl _ _⟩

end Go.Proofs.Yteniflajiklffaa.ords

namespace Go.Proofs.Yteniflajiklffaa.ords
open Go Go.RowKit Go.Proofs.Yteniflajiklffaa.base Go.Proofs.Yteniflajiklffaa.pairs
set_option linter.unusedVariables false
set_option linter.unusedSimpArgs false

theorem infoZ : (Try.prog.info? 3).map (fun i => (i.zero, i.size, i.bytes)) = some (some (.int .i64 0), 1, 8) := by kernel_rfl
def intVals (zs : List Int) : List Value := zs.map fun z => .int .i64 z
theorem intVals_append (a b : List Int) : intVals (a ++ b) = intVals a ++ intVals b := by simp [intVals]
theorem intVals_oneCell (zs : List Int) : ∀ v ∈ intVals zs, v.oneCell' = true := by
  intro v hv; obtain ⟨_, _, rfl⟩ := List.mem_map.1 hv; rfl
def CellsZ (w : World) (b off : Nat) (zs : List Int) : Prop := ∀ i (h : i < zs.length), w.cell? ⟨b, off + i, none⟩ = some (.int .i64 zs[i])
def SlZ (w : World) (a : Option Addr) (len : Nat) (zs : List Int) : Prop :=
  zs.length = len ∧ len ≤ maxLen ∧ (0 < len → ∃ b off, a = some ⟨b, off, none⟩ ∧ CellsZ w b off zs)
def OwnZ (w : World) (base g n cap : Nat) (zs : List Int) : Prop := zs.length = n ∧ w.ownsRow base 3 1 (.slice (some ⟨g, 0, none⟩) n cap) n (intVals zs)
section
variable {w w' : World} {a : Option Addr} {b off len base base' g n cap : Nat} {zs : List Int} {row : Option Nat}
theorem SlZ.cells (h : SlZ w (some ⟨b, off, none⟩) len zs) : CellsZ w b off zs := by
  intro i hi
  obtain ⟨b', off', e, hc⟩ := h.2.2 (by have := h.1; omega)
  simp only [Option.some.injEq, Addr.mk.injEq, and_true] at e
  obtain ⟨rfl, rfl⟩ := e
  exact hc i hi
theorem SlZ.below (h : SlZ w a len zs) (hb : Below w.heap.size w w') : SlZ w' a len zs := by
  obtain ⟨h1, h2, h3⟩ := h
  refine ⟨h1, h2, fun h0 => ?_⟩
  obtain ⟨b, off, rfl, hc⟩ := h3 h0
  exact ⟨b, off, rfl, fun i hi => (hb.cell (p := ⟨b, off + i, none⟩) (World.block_lt_of_cell? w _ (hc i hi))).trans (hc i hi)⟩
theorem OwnZ.lt (h : OwnZ w base g n cap zs) : base ≤ g ∧ g < w.heap.size := h.2.lt g rfl
theorem OwnZ.cases (h : OwnZ w base g n cap zs) : n ≤ cap ∧ cap ≤ maxLen := by
  rcases h.2.2 with ⟨h', _⟩ | ⟨g', cap', cur, h', _, hg, h1, h2, _⟩
  · simp at h'
  · simp only [Value.slice.injEq, Option.some.injEq, Addr.mk.injEq, and_true, true_and] at h'
    obtain ⟨rfl, rfl⟩ := h'
    exact ⟨h1, h2⟩
theorem OwnZ.mono (h : OwnZ w base g n cap zs) (hb : base' ≤ base) : OwnZ w base' g n cap zs := by
  refine ⟨h.1, h.2.1, ?_⟩
  rcases h.2.2 with h' | ⟨g', cap', cur, h', h0, r⟩
  · exact .inl h'
  · exact .inr ⟨g', cap', cur, h', by omega, r⟩
theorem OwnZ.at (h : OwnZ w base g n cap zs) (i : Nat) (hi : i < zs.length) : w.cell? ⟨g, i, none⟩ = some (.int .i64 zs[i]) := by
  have hl := h.1
  rw [h.2.cellAt i (by omega)]
  simp [intVals, hi]
theorem OwnZ.frozen (h : OwnZ w base g n cap zs) (i : Nat) : w.frozen? ⟨g, i, none⟩ = false := h.2.frozenAt i
theorem OwnZ.sl (h : OwnZ w base g n cap zs) : SlZ w (some ⟨g, 0, none⟩) n zs :=
  ⟨h.1, by have := h.cases; omega, fun _ => ⟨g, 0, rfl, fun i hi => by rw [Nat.zero_add]; exact h.at i hi⟩⟩
theorem OwnZ.grown (h : OwnZ w base g n cap zs) (hg : w.grownBy w' row) (hne : some g ≠ row) : OwnZ w' base g n cap zs := ⟨h.1, h.2.kept hg (.inr hne)⟩
theorem OwnZ.below (h : OwnZ w base g n cap zs) (hb : Below w.heap.size w w') : OwnZ w' base g n cap zs :=
  ⟨h.1, h.2.kept (row := none) ⟨hb.os, hb.tape, hb.output, hb.size, fun k hk _ => hb.block k hk⟩ (.inr (by simp [Value.ownBlock]))⟩
end
theorem one_int_cells (w : World) (z : Int) (t : TypeId) : ∀ j u, (intVals [z])[j]? = some u → (w.alloc (.cells #[.int .i64 z] t)).cell? ((⟨w.heap.size, 0, none⟩ : Addr).add j) = some u := by
  intro j u hj
  match j, hj with
  | 0, hj => simp [intVals] at hj; subst hj; simp [Addr.add]

/-! ### a number put in order -/
end Go.Proofs.Yteniflajiklffaa.ords

namespace Go.Proofs.Yteniflajiklffaa.ords
open Go Go.RowKit Go.Proofs.Yteniflajiklffaa.base Go.Proofs.Yteniflajiklffaa.helps Go.Proofs.Yteniflajiklffaa.pairs
set_option linter.unusedVariables false
set_option linter.unusedSimpArgs false

def marksO (k0 n : Nat) : List Od := (List.range n).map fun j => (((k0 + 3 * j : Nat) : Int), markBytes (k0 + 3 * j + 1), markBytes (k0 + 3 * j + 2))
def markOTo (l : List Od) (k0 i : Nat) : List Od := marksO k0 i ++ l.drop i
theorem marksO_length (k0 n : Nat) : (marksO k0 n).length = n := by simp [marksO]
theorem marksO_get (k0 n i : Nat) (h : i < n) : (marksO k0 n)[i]'(by rw [marksO_length]; exact h) = (((k0 + 3 * i : Nat) : Int), markBytes (k0 + 3 * i + 1), markBytes (k0 + 3 * i + 2)) := by simp [marksO]
theorem markOTo_length (l : List Od) (k0 i : Nat) (h : i ≤ l.length) : (markOTo l k0 i).length = l.length := by simp [markOTo, marksO]; omega
theorem markOTo_zero (l : List Od) (k0 : Nat) : markOTo l k0 0 = l := by simp [markOTo, marksO]
theorem markOTo_all (l : List Od) (k0 : Nat) : markOTo l k0 l.length = marksO k0 l.length := by simp [markOTo]
theorem markOTo_set (l : List Od) (k0 i : Nat) (h : i < l.length) : (markOTo l k0 i).set i (((k0 + 3 * i : Nat) : Int), markBytes (k0 + 3 * i + 1), markBytes (k0 + 3 * i + 2)) = markOTo l k0 (i + 1) := by
  unfold markOTo marksO
  rw [List.set_append_right _ _ (by simp)]
  simp only [List.length_map, List.length_range, Nat.sub_self, List.range_succ, List.map_append, List.map_cons, List.map_nil, List.append_assoc]
  congr 1
  rw [List.drop_eq_getElem_cons h]
  rfl

set_option maxRecDepth 100000 in
set_option maxHeartbeats 1000000 in
theorem markOpS (g len cap k0 base : Nat) (l : List Od) (w : World) (h : OwnO w base g len cap l) (hk1 : 1 ≤ k0) (hk0 : k0 + 3 * len ≤ 1099511627776) :
    Calls Try.prog 49 #[.slice (some ⟨g, 0, none⟩) len cap, .int .i64 (k0 : Nat)] w fun e w' => e = .returned (.int .i64 ((k0 + 3 * len : Nat) : Int)) ∧ OwnO w' base g len cap (marksO k0 len) ∧ w.grownBy w' (some g) := by
  have hl := h.1
  subst hl
  go_enter Try.func49, Try.ntmps49
  go_wp2_with fail
  go_loopw [1, 5] (fun kv i wr => ∃ k : Nat, k ≤ l.length ∧ i = .int .i64 k ∧ kv = .int .i64 ((k0 + 3 * k : Nat) : Int) ∧ OwnO wr base g l.length cap (markOTo l k0 k) ∧ w.grownBy wr (some g)) (fun _ i _ => l.length - (intOf i).toNat)
  case atStart => exact ⟨0, Nat.zero_le _, rfl, rfl, by rw [markOTo_zero]; exact h, World.grownBy.refl _ _⟩
  case round =>
    obtain ⟨k, hk, rfl, rfl, hO, hG⟩ := hrel
    by_cases hlt : k < l.length
    · have hlen : k < (markOTo l k0 k).length := by rw [markOTo_length l k0 k hk]; exact hlt
      have HS := Hid.mk' (markOTo_set l k0 k hlt)
      have hki : (k : Int) < (l.length : Int) := by omega
      have d0 := hO.kind k hlen
      have f0 := hO.frozen (k * 3)
      have R0 := hO.setKind k hlen ((k0 + 3 * k : Nat) : Int) (WalkArith.wf_i64 (by omega))
      have HR0 := Hid.mk' R0
      have hG0 := grownBy_trans hG R0.2
      clear R0 hO hG
      go_wp2_with fail
      refine (markTextI _ (k0 + 3 * k + 1) _ (by show _ = _; omega) (by omega) (by omega)).mono ?_
      rintro e w1 ⟨rfl, hB1⟩
      have hO1 := HR0.out.1.below hB1
      have hG1 := grown_below hG0 hB1
      have hlen1 : k < ((markOTo l k0 k).set k (((k0 + 3 * k : Nat) : Int), (markOTo l k0 k)[k].2)).length := by simpa using hlen
      have d1 := hO1.key k hlen1
      have f1 := hO1.frozen (k * 3 + 1)
      have R := hO1.setKey k hlen1 (markBytes (k0 + 3 * k + 1)) (mark_max _)
      simp only [List.getElem_set_self, List.set_set] at R
      have HR := Hid.mk' R
      have hG2 := grownBy_trans hG1 R.2
      clear R hO1 hG1 HR0 hG0 d0 f0
      go_wp2_with fail
      refine (markTextI _ (k0 + 3 * k + 2) _ (by show _ = _; omega) (by omega) (by omega)).mono ?_
      rintro e w2 ⟨rfl, hB2⟩
      have hO2 := HR.out.1.below hB2
      have hG3 := grown_below hG2 hB2
      have hlen2 : k < ((markOTo l k0 k).set k (((k0 + 3 * k : Nat) : Int), markBytes (k0 + 3 * k + 1), (markOTo l k0 k)[k].2.2)).length := by simpa using hlen
      have d2 := hO2.val k hlen2
      have f2 := hO2.frozen (k * 3 + 2)
      have R2 := hO2.setVal k hlen2 (markBytes (k0 + 3 * k + 2)) (mark_max _)
      simp only [List.getElem_set_self, List.set_set] at R2
      rw [HS.out] at R2
      have HR2 := Hid.mk' R2
      have hG4 := grownBy_trans hG3 R2.2
      clear R2 hO2 hG3 hG2 HR d1 f1
      go_wp2_with fail
      go_roundw
      case rel => exact ⟨k + 1, by omega, by go_num, by go_num, HR2.out.1, hG4⟩
      case measure => simp [intOf]; omega
    · go_wp2_with fail
      go_ret
      have e : k = l.length := by omega
      subst e
      rw [markOTo_all] at hO
      exact ⟨rfl, hO, hG⟩

set_option maxRecDepth 100000 in
set_option maxHeartbeats 1000000 in
theorem heldOpS (a : Option Addr) (len cap k0 : Nat) (w : World) (h : SlO w a len (marksO k0 len)) (hk1 : 1 ≤ k0) (hk0 : k0 + 3 * len ≤ 1099511627776) :
    Calls Try.prog 51 #[.slice a len cap, .int .i64 (k0 : Nat)] w fun e w' => e = .returned (.int .i64 ((k0 + 3 * len : Nat) : Int)) ∧ Below w.heap.size w w' := by
  obtain ⟨hl, hm, _, hc⟩ := h
  go_enter Try.func51, Try.ntmps51
  go_wp2_with fail
  go_loopw [1, 5] (fun kv i wr => ∃ k : Nat, k ≤ len ∧ i = .int .i64 k ∧ kv = .int .i64 ((k0 + 3 * k : Nat) : Int) ∧ Below w.heap.size w wr) (fun _ i _ => len - (intOf i).toNat)
  case atStart => exact ⟨0, Nat.zero_le _, rfl, rfl, Below.refl _ _⟩
  case round =>
    obtain ⟨k, hk, rfl, rfl, hB⟩ := hrel
    by_cases hlt : k < len
    · obtain ⟨b, off, ha, hcl⟩ := hc (by omega)
      subst ha
      have hkl : k < (marksO k0 len).length := by omega
      obtain ⟨d0, d1, d2⟩ := hcl k hkl
      rw [marksO_get k0 len k hlt] at d0 d1 d2
      have hbb : b < w.heap.size := World.block_lt_of_cell? w _ d1
      have c0 := (hB.cell (p := ⟨b, off + k * 3, none⟩) hbb).trans d0
      have c1 := (hB.cell (p := ⟨b, off + k * 3 + 1, none⟩) hbb).trans d1
      have c2 := (hB.cell (p := ⟨b, off + k * 3 + 2, none⟩) hbb).trans d2
      have hbw := hB.size
      have o1 := last.On.cell (B := wr.heap.size) c1 (by omega)
      have hinh := last.On.inh wr.heap.size wr
      have hki : (k : Int) < (len : Int) := by omega
      have hm1 : ∀ x : last.On wr.heap.size wr, Calls Try.prog 50 #[.int .i64 ((k0 : Int) + 3 * (k : Int) + 1)] x.w fun e w' => e = .returned (.string (markBytes (k0 + 3 * k + 1))) ∧ ∃ y : last.On wr.heap.size wr, w' = y.w := fun x => last.Calls.on x (Nat.le_refl _) (markTextI _ (k0 + 3 * k + 1) x.w (by show _ = _; omega) (by omega) (by omega))
      clear hcl hc d0 d1 d2 hkl
      generalize hM1 : markBytes (k0 + 3 * k + 1) = M1 at *
      generalize hM2 : markBytes (k0 + 3 * k + 2) = M2 at *
      have HM2 := Hid.mk' hM2
      clear hM1 hM2
      go_wp2_with fail
      refine last.wp_region_on wr.heap.size (by kernel_rfl) (by kernel_rfl) ?_
      repeat (go_big_quiet_step ((go_at_call 50; exact hm1 _)))
      refine wpQuiet_nil ?_
      intro w5 hw5
      obtain ⟨x5, hw5⟩ := hw5
      subst hw5
      have hB5 : Below w.heap.size w x5.w := hB.trans (x5.2.mono hB.size)
      have c2' : x5.w.cell? ⟨b, off + k * 3 + 2, none⟩ = some (.string M2) := (x5.2.cell (p := ⟨b, off + k * 3 + 2, none⟩) (by show b < _; omega)).trans c2
      generalize x5.w = w6 at *
      clear o1 hinh hm1 c0 c1 c2
      have hbw6 := hB5.size
      have o2 := last.On.cell (B := w6.heap.size) c2' (by omega)
      have hinh := last.On.inh w6.heap.size w6
      have hm2 : ∀ x : last.On w6.heap.size w6, Calls Try.prog 50 #[.int .i64 ((k0 : Int) + 3 * (k : Int) + 1 + 1)] x.w fun e w' => e = .returned (.string M2) ∧ ∃ y : last.On w6.heap.size w6, w' = y.w := fun x => last.Calls.on x (Nat.le_refl _) (by rw [← HM2.out]; exact markTextI _ (k0 + 3 * k + 2) x.w (by show _ = _; omega) (by omega) (by omega))
      clear HM2
      go_wp2_with fail
      refine last.wp_region_on w6.heap.size (by kernel_rfl) (by kernel_rfl) ?_
      repeat (go_big_quiet_step ((go_at_call 50; exact hm2 _)))
      refine wpQuiet_nil ?_
      intro w7 hw7
      obtain ⟨x7, hw7⟩ := hw7
      subst hw7
      have hB7 : Below w.heap.size w x7.w := hB5.trans (x7.2.mono hB5.size)
      go_wp2_with fail
      go_roundw
      case rel => exact ⟨k + 1, by omega, by go_num, by go_num, hB7⟩
      case measure => simp [intOf]; omega
    · go_wp2_with fail
      go_ret
      have e : k = len := by omega
      subst e
      exact ⟨rfl, hB⟩

/-! ### rows of numbers -/
theorem eqO (a a2 : Option Addr) (len cap len2 cap2 : Nat) (l l2 : List Od) (w : World) (h : SlO w a len l) (h2 : SlO w a2 len2 l2) (he : l = l2) :
    Calls Try.prog 90 #[.slice a len cap, .slice a2 len2 cap2] w fun e w' => e = .returned (.bool true) ∧ Below w.heap.size w w' := by
  refine (eqOpS a a2 len cap len2 cap2 l l2 w h h2).mono ?_
  rintro e w' ⟨rfl, hb⟩
  exact ⟨ret_bool (decide_eq_true he), hb⟩
end Go.Proofs.Yteniflajiklffaa.ords

namespace Go.Proofs.Yteniflajiklffaa.recs
open Go Go.RowKit Go.Proofs.Yteniflajiklffaa.base Go.Proofs.Yteniflajiklffaa.pairs Go.Proofs.Yteniflajiklffaa.ords Go.Proofs.Yteniflajiklffaa.helps
set_option linter.unusedVariables false
set_option linter.unusedSimpArgs false

set_option maxRecDepth 100000 in
set_option maxHeartbeats 1000000 in
theorem szRec (kind tx : Int) (a : Option Addr) (len cap : Nat) (l : List Od) (L : Nat) (w : World) (h : SlO w a len l) (hL : L ≤ 1099511627776) :
    Calls Try.prog 41 #[.agg #[.int .i64 kind, .int .i64 tx, .slice a len cap], .int .i64 (L : Int)] w fun e w' => e = .returned (.int .i64 (pairs.szR L (l.length + sumO l))) ∧ Below w.heap.size w w' := by
  have hba : Below w.heap.size w (w.alloc (.cells #[.int .i64 kind, .int .i64 tx, .slice a len cap] 85)) := (Below.refl _ _).alloc (Nat.le_refl _) _
  have HS := Hid.mk' (szOpS a len cap l L _ (h.below hba) hL)
  by_cases hc : l.length + sumO l ≤ L
  · rw [pairs.szR_pos hc] at HS ⊢
    have hn : ¬ (L : Int) - ((l.length + sumO l : Nat) : Int) < 0 := by omega
    generalize (L : Int) - ((l.length + sumO l : Nat) : Int) = S at *
    go_enter Try.func41, Try.ntmps41
    go_wp2_with fail
    refine HS.out.mono ?_
    rintro e w1 ⟨rfl, hb1⟩
    go_wp2_with fail
    go_ret
    exact ⟨rfl, hba.trans (hb1.mono hba.size)⟩
  · rw [pairs.szR_neg (by omega)] at HS ⊢
    go_enter Try.func41, Try.ntmps41
    go_wp2_with fail
    refine HS.out.mono ?_
    rintro e w1 ⟨rfl, hb1⟩
    go_wp2_with fail
    go_ret
    exact ⟨rfl, hba.trans (hb1.mono hba.size)⟩

set_option maxRecDepth 100000 in
set_option maxHeartbeats 1000000 in
theorem eqRecT (kind tx : Int) (pa qa : Option Addr) (pl pc ql qc : Nat) (l : List Od) (w : World) (hx : SlO w pa pl l) (hy : SlO w qa ql l) :
    Calls Try.prog 48 #[.agg #[.int .i64 kind, .int .i64 tx, .slice pa pl pc], .agg #[.int .i64 kind, .int .i64 tx, .slice qa ql qc]] w fun e w' => e = .returned (.bool true) ∧ Below w.heap.size w w' := by
  obtain ⟨W, hW⟩ : ∃ W, (w.alloc (.cells #[.int .i64 kind, .int .i64 tx, .slice pa pl pc] 91)).alloc (.cells #[.int .i64 kind, .int .i64 tx, .slice qa ql qc] 91) = W := ⟨_, rfl⟩
  have hB : Below w.heap.size w W := by rw [← hW]; exact ((Below.refl _ _).alloc (Nat.le_refl _) _).alloc (by simp) _
  have HE := Hid.mk' (eqO pa qa pl pc ql qc l l W (hx.below hB) (hy.below hB) rfl)
  have HW := Hid.mk' hW
  clear hW
  have hn : (kind == kind) = true := by simp
  have hf : (tx == tx) = true := by simp
  go_enter Try.func48, Try.ntmps48
  go_wp2_with fail
  rw [HW.out]
  refine HE.out.mono ?_
  rintro e w1 ⟨rfl, hb1⟩
  have hB1 := hB.trans (hb1.mono hB.size)
  clear HE HW hb1
  go_wp2_with fail
  go_ret
  exact ⟨rfl, hB1⟩

set_option maxRecDepth 100000 in
set_option maxHeartbeats 1000000 in
theorem markNil (K : Int) (w : World) :
    Calls Try.prog 49 #[.slice none 0 0, .int .i64 K] w fun e w' => e = .returned (.int .i64 K) ∧ w' = w := by
  go_enter Try.func49, Try.ntmps49
  go_wp2_with fail
  refine wp_loop_rounds 1 ?_
  rw [rounds_succ]
  go_wp2_with fail
  go_ret
  exact ⟨rfl, rfl⟩
theorem markV (v : Value) (base k0 : Nat) (l : List Od) (w : World) (h : OwnV w base v l) (hk1 : 1 ≤ k0) (hk0 : k0 + 3 * l.length ≤ 1099511627776) (K : Int) (hK : Hid (K = (k0 : Int))) :
    Calls Try.prog 49 #[v, .int .i64 K] w fun e w' => e = .returned (.int .i64 ((k0 + 3 * l.length : Nat) : Int)) ∧ OwnV w' base v (marksO k0 l.length) ∧ w.grownBy w' v.ownBlock := by
  have e := hK.out
  subst e
  rcases h.shape with ⟨rfl, rfl⟩ | ⟨g, cap, rfl, hO⟩
  · refine (markNil (k0 : Int) w).mono ?_
    rintro e w' ⟨rfl, rfl⟩
    exact ⟨by simp, by simpa [marksO] using ownV_nil _ _, rfl, rfl, rfl, Nat.le_refl _, fun _ _ _ => rfl⟩
  · refine (markOpS g l.length cap k0 base l w hO hk1 hk0).mono ?_
    rintro e w' ⟨rfl, hO', hg⟩
    have := ownV_of hO'
    exact ⟨rfl, this, hg⟩
end Go.Proofs.Yteniflajiklffaa.recs

namespace Go.Proofs.Yteniflajiklffaa.recs
open Go Go.RowKit Go.Proofs.Yteniflajiklffaa.base Go.Proofs.Yteniflajiklffaa.pairs Go.Proofs.Yteniflajiklffaa.ords Go.Proofs.Yteniflajiklffaa.helps
set_option linter.unusedVariables false
set_option linter.unusedSimpArgs false

set_option maxRecDepth 100000 in
set_option maxHeartbeats 2000000 in
theorem eqRecsT (a a2 : Option Addr) (len cap cap2 : Nat) (l : List Rc) (w : World) (h : SlR w a len l) (h2 : SlR w a2 len l) :
    Calls Try.prog 19 #[.slice a len cap, .slice a2 len cap2] w fun e w' => e = .returned (.bool true) ∧ Below w.heap.size w w' := by
  obtain ⟨hl, hm, hsm, hc⟩ := id h
  obtain ⟨_, _, _, hc2⟩ := id h2
  subst hl
  unfold maxLen at hm
  have hb : ((l.length : Int) == (l.length : Int)) = true := by simp
  go_enter Try.func19, Try.ntmps19
  go_wp2_with fail
  go_loopw [5] (fun i wr => ∃ k : Nat, k ≤ l.length ∧ i = .int .i64 k ∧ Below w.heap.size w wr) (fun i _ => l.length - (intOf i).toNat)
  case atStart => exact ⟨0, Nat.zero_le _, rfl, Below.refl _ _⟩
  case round =>
    obtain ⟨k, hk, rfl, hB⟩ := hrel
    by_cases hlt : k < l.length
    · obtain ⟨b, off, ha, hcl⟩ := hc (by omega)
      obtain ⟨b2, off2, ha2, hcl2⟩ := hc2 (by omega)
      subst ha ha2
      have hki : (k : Int) < (l.length : Int) := by omega
      have i1 := h.at k hlt
      have i2 := h2.at k hlt
      have hb1 : b < w.heap.size := World.block_lt_of_cell? w _ i1.1
      have hb2 : b2 < w.heap.size := World.block_lt_of_cell? w _ i2.1
      have hbs := hB.size
      obtain ⟨c1, c2, pa, pl, pc, c3, hS1, _⟩ := i1.below hB
      obtain ⟨c4, c5, qa, ql, qc, c6, hS2, _⟩ := i2.below hB
      have o1 := last.On.cell (B := wr.heap.size) c1 (by omega)
      have o2 := last.On.cell (B := wr.heap.size) c2 (by omega)
      have o3 := last.On.cell (B := wr.heap.size) c3 (by omega)
      have o4 := last.On.cell (B := wr.heap.size) c4 (by omega)
      have o5 := last.On.cell (B := wr.heap.size) c5 (by omega)
      have o6 := last.On.cell (B := wr.heap.size) c6 (by omega)
      have hinh := last.On.inh wr.heap.size wr
      have hcall : ∀ x : last.On wr.heap.size wr, Calls Try.prog 48 #[.agg #[.int .i64 l[k].1, .int .i64 l[k].2.1, .slice pa pl pc], .agg #[.int .i64 l[k].1, .int .i64 l[k].2.1, .slice qa ql qc]] x.w fun e w' => e = .returned (.bool true) ∧ ∃ y : last.On wr.heap.size wr, w' = y.w := fun x => last.Calls.on x (Nat.le_refl _) (eqRecT l[k].1 l[k].2.1 pa qa pl pc ql qc l[k].2.2 x.w (hS1.below x.2) (hS2.below x.2))
      clear hcl hcl2 hc hc2 i1 i2 hsm h h2 hS1 hS2
      generalize l[k] = p at *
      go_wp2_with fail
      refine last.wp_region_on wr.heap.size (by kernel_rfl) (by kernel_rfl) ?_
      repeat (go_big_quiet_step ((go_at_call 48; exact hcall _)))
      refine wpQuiet_nil ?_
      intro w5 hw5
      obtain ⟨x5, hw5⟩ := hw5
      subst hw5
      have hB5 : Below w.heap.size w x5.w := hB.trans (x5.2.mono hB.size)
      go_wp2_with fail
      go_roundw
      case rel => exact ⟨k + 1, by omega, by go_num, hB5⟩
      case measure => simp [intOf]; omega
    · go_wp2_with fail
      go_ret
      exact ⟨rfl, hB⟩

/-! ### marks -/
def cntR (l : List Rc) : Nat := (l.map fun x => 2 + 3 * x.2.2.length).sum
def markR : Nat → List Rc → List Rc
  | _, [] => []
  | k, x :: l => ((k : Int), ((k + 1 : Nat) : Int), marksO (k + 2) x.2.2.length) :: markR (k + 2 + 3 * x.2.2.length) l
theorem cntR_cons (x : Rc) (l : List Rc) : cntR (x :: l) = 2 + 3 * x.2.2.length + cntR l := by simp [cntR]
theorem cntR_append (a b : List Rc) : cntR (a ++ b) = cntR a + cntR b := by simp [cntR]
theorem cntR_take (l : List Rc) (i : Nat) (h : i < l.length) : cntR (l.take (i + 1)) = cntR (l.take i) + 2 + 3 * l[i].2.2.length := by
  rw [List.take_succ_eq_append_getElem h, cntR_append]; simp [cntR]; omega
theorem cntR_take_le (l : List Rc) (i : Nat) : cntR (l.take i) ≤ cntR l := by
  have : cntR l = cntR (l.take i) + cntR (l.drop i) := by rw [← cntR_append, List.take_append_drop]
  omega
theorem markR_length (k : Nat) (l : List Rc) : (markR k l).length = l.length := by
  induction l generalizing k with
  | nil => rfl
  | cons x l ih => simp [markR, ih]
theorem markR_append (k : Nat) (a b : List Rc) : markR k (a ++ b) = markR k a ++ markR (k + cntR a) b := by
  induction a generalizing k with
  | nil => simp [markR, cntR]
  | cons x a ih => simp only [List.cons_append, markR, ih, cntR_cons, Nat.add_assoc]
def markRTo (l : List Rc) (k i : Nat) : List Rc := markR k (l.take i) ++ l.drop i
theorem markRTo_zero (l : List Rc) (k : Nat) : markRTo l k 0 = l := by simp [markRTo, markR]
theorem markRTo_all (l : List Rc) (k : Nat) : markRTo l k l.length = markR k l := by simp [markRTo]
theorem markRTo_length (l : List Rc) (k i : Nat) (h : i ≤ l.length) : (markRTo l k i).length = l.length := by simp [markRTo, markR_length]; omega
theorem markRTo_at (l : List Rc) (k i : Nat) (h : i < l.length) : (markRTo l k i)[i]'(by rw [markRTo_length l k i (by omega)]; exact h) = l[i] := by
  unfold markRTo
  rw [List.getElem_append_right (by rw [markR_length, List.length_take]; exact Nat.min_le_left _ _)]
  simp [markR_length, Nat.min_eq_left (Nat.le_of_lt h)]
theorem markRTo_set (l : List Rc) (k i : Nat) (h : i < l.length) :
    (markRTo l k i).set i (((k + cntR (l.take i) : Nat) : Int), ((k + cntR (l.take i) + 1 : Nat) : Int), marksO (k + cntR (l.take i) + 2) l[i].2.2.length) = markRTo l k (i + 1) := by
  unfold markRTo
  rw [List.set_append_right _ _ (by rw [markR_length, List.length_take]; exact Nat.min_le_left _ _), markR_length, List.length_take, Nat.min_eq_left (Nat.le_of_lt h), Nat.sub_self, List.drop_eq_getElem_cons h, List.set_cons_zero,
    List.take_succ_eq_append_getElem h, markR_append, List.append_assoc]
  rfl
theorem markR_at (k : Nat) (l : List Rc) (i : Nat) (h : i < l.length) : (markR k l)[i]'(by rw [markR_length]; exact h) = (((k + cntR (l.take i) : Nat) : Int), ((k + cntR (l.take i) + 1 : Nat) : Int), marksO (k + cntR (l.take i) + 2) l[i].2.2.length) := by
  induction l generalizing k i with
  | nil => simp at h
  | cons x l ih =>
    cases i with
    | zero => simp [markR, cntR]
    | succ i =>
      simp only [markR, List.getElem_cons_succ, List.take_succ_cons, cntR_cons]
      rw [ih _ i (by simpa using h)]
      simp only [Nat.add_assoc]

theorem OwnR.setOpsV {w w' : World} {base : Nat} {v : Value} {l : List Rc} {hs : List Value} (h : OwnR w base v l hs) (i : Nat) (hi : i < l.length) (P : List Od) (hP : OwnV w' base (hs[i]'(by have := h.len; omega)) P) (hg : w.grownBy w' (hs[i]'(by have := h.len; omega)).ownBlock) :
    OwnR w' base v (l.set i (l[i].1, l[i].2.1, P)) hs := by
  cases hk : (hs[i]'(by have := h.len; omega)).ownBlock with
  | some k => rw [hk] at hg; exact h.setOps i hi P hP hk hg
  | none =>
    rw [hk] at hg
    have hsm := h.sm l[i] (List.getElem_mem hi)
    have h2 := h.of_blocks (w' := w') (fun k hb => hg.block k (h.lt k hb).2 (by simp))
    refine ⟨by simpa using h.len, mem_set_smallR h.sm ⟨hsm.1, hsm.2.1, hP.1⟩, ?_, fun j hj => ?_, h.apart, h.out⟩
    · rw [recVals_ops l hs i P h.len hi, List.length_set]; exact h2.row
    · have hjl : j < l.length := by simpa using hj
      by_cases e : i = j
      · subst e; rw [List.getElem_set_self]; exact hP
      · rw [List.getElem_set_ne e]; exact h2.ops j hjl
theorem KeepR.grownV {v : Value} {hs : List Value} {w w' w'' : World} {row : Option Nat} (h : KeepR v hs w w') (hg : w'.grownBy w'' row) (hk : ∀ k, row = some k → BlkR v hs k) : KeepR v hs w w'' :=
  ⟨hg.os.trans h.os, hg.tape.trans h.tape, hg.output.trans h.output, Nat.le_trans h.size hg.size, fun j hj hn => (hg.block j (Nat.lt_of_lt_of_le hj h.size) (fun e => hn (hk j e.symm))).trans (h.block j hj hn)⟩

set_option maxRecDepth 100000 in
set_option maxHeartbeats 2000000 in
theorem markRecS (v : Value) (base k0 : Nat) (l : List Rc) (hs : List Value) (w : World) (h : OwnR w base v l hs) (hb : base ≤ w.heap.size) (hk1 : 1 ≤ k0) (hk0 : k0 + cntR l ≤ 1099511627776) (hll : l.length ≤ 1099511627776) (K : Int) (hK : Hid (K = (k0 : Int))) :
    Calls Try.prog 20 #[v, .int .i64 K] w fun e w' => e = .returned (.int .i64 ((k0 + cntR l : Nat) : Int)) ∧ OwnR w' base v (markR k0 l) hs ∧ KeepR v hs w w' := by
  have eK := hK.out
  subst eK
  clear hK
  rcases h.shape with ⟨rfl, rfl, rfl⟩ | ⟨g, cap, rfl, hcap, hmx⟩
  · go_enter Try.func20, Try.ntmps20
    go_wp2_with fail
    refine wp_loop_rounds 1 ?_
    rw [rounds_succ]
    go_wp2_with fail
    go_ret
    exact ⟨rfl, h, KeepR.refl _ _ _⟩
  have hlen := h.len
  go_enter Try.func20, Try.ntmps20
  go_wp2_with fail
  go_loopw [1, 5] (fun kv i wr => ∃ k : Nat, k ≤ l.length ∧ i = .int .i64 k ∧ kv = .int .i64 ((k0 + cntR (l.take k) : Nat) : Int) ∧ OwnR wr base (.slice (some ⟨g, 0, none⟩) l.length cap) (markRTo l k0 k) hs ∧ KeepR (.slice (some ⟨g, 0, none⟩) l.length cap) hs w wr) (fun _ i _ => l.length - (intOf i).toNat)
  case atStart => exact ⟨0, Nat.zero_le _, rfl, rfl, by rw [markRTo_zero]; exact h, KeepR.refl _ _ _⟩
  case round =>
    obtain ⟨k, hk, rfl, rfl, hO, hB⟩ := hrel
    by_cases hlt : k < l.length
    · have hml := markRTo_length l k0 k hk
      have hlen2 : k < (markRTo l k0 k).length := by omega
      have hat : (markRTo l k0 k)[k]? = some l[k] := by rw [List.getElem?_eq_getElem hlen2, markRTo_at l k0 k hlt]
      have hset := markRTo_set l k0 k hlt
      have hct := cntR_take l k hlt
      have hcl := cntR_take_le l (k + 1)
      have hki : (k : Int) < (l.length : Int) := by omega
      obtain ⟨c, hc⟩ : ∃ c, k0 + cntR (l.take k) = c := ⟨_, rfl⟩
      have hnext : k0 + cntR (l.take (k + 1)) = c + 2 + 3 * l[k].2.2.length := by omega
      rw [hc] at hset
      have hc2 : c + 2 + 3 * l[k].2.2.length ≤ 1099511627776 := by omega
      have hc1 : 1 ≤ c := by omega
      obtain ⟨L, hL⟩ : ∃ L, markRTo l k0 k = L := ⟨_, rfl⟩
      rw [hL] at hO hat hset hlen2
      have hat : L[k] = l[k] := by rw [List.getElem?_eq_getElem hlen2] at hat; exact Option.some.inj hat
      have HN := Hid.mk' hnext
      have HS := Hid.mk' hset
      have hkh : k < hs.length := by omega
      have d1 := (hO.at k hlen2).1
      have f1 := hO.frozen (k * 3)
      have R := hO.setKind k hlen2 (c : Int) (WalkArith.wf_i64 (by omega))
      have hlen3 : k < (L.set k ((c : Int), L[k].2)).length := by simpa using hlen2
      have d2 := (R.1.at k hlen3).2.1
      have f2 := R.1.frozen (k * 3 + 1)
      have R2 := R.1.setTx k hlen3 ((c + 1 : Nat) : Int) (WalkArith.wf_i64 (by omega))
      simp only [List.getElem_set_self, List.set_set] at R2 d2
      have hlen4 : k < (L.set k ((c : Int), ((c + 1 : Nat) : Int), L[k].2.2)).length := by simpa using hlen2
      have d3 := (R2.1.at k hlen4).2.2
      have hPk := R2.1.ops k hlen4
      simp only [List.getElem_set_self] at hPk
      have hB2 := (hB.grown R.2 (.inl rfl)).grown R2.2 (.inl rfl)
      have hlk : L[k].2.2.length = l[k].2.2.length := by rw [hat]
      obtain ⟨y, hy⟩ : ∃ y, hs[k] = y := ⟨_, rfl⟩
      rw [hy] at hPk d3
      have HY := Hid.mk' hy
      have hsh := hPk.sl
      obtain ⟨ya, yc, hye, _⟩ := hsh
      have HMV : Hid (∀ K, Hid (K = ((c + 2 : Nat) : Int)) → Calls Try.prog 49 #[y, .int .i64 K] _ _) := fun K hK => markV y base (c + 2) L[k].2.2 _ hPk (by omega) (by omega) K hK
      have HR2 := Hid.mk' R2.1
      have HB2 := Hid.mk' hB2
      have e1 : ((c + 1 : Nat) : Int) = (c : Int) + 1 := by omega
      have HE1 := Hid.mk' e1
      rw [hc]
      rw [e1] at HMV HR2 HB2 d3
      subst hye
      have HLK := Hid.mk' hlk
      have hlen5 : k < (L.set k ((c : Int), (c : Int) + 1, L[k].2.2)).length := by simpa using hlen2
      clear hnext hset hct hcl hL hc hml hat hy R R2 hO hB hB2 hPk e1 hlk
      go_wp2_with fail
      refine (HMV.out _ (by show _ = _; omega)).mono ?_
      rintro e w3 ⟨rfl, hP3, hG3⟩
      have hO3 := HR2.out.setOpsV k hlen5 (marksO (c + 2) L[k].2.2.length) (by simp only [HY.out]; exact hP3) (by simp only [HY.out]; exact hG3)
      simp only [List.getElem_set_self, List.set_set] at hO3
      rw [← HE1.out, HLK.out, HS.out] at hO3
      have hB3 := HB2.out.grownV hG3 (fun j e => .inr ⟨hs[k], List.getElem_mem _, by rw [HY.out]; exact e⟩)
      have HO3 := Hid.mk' hO3
      have HV : Hid (((c + 2 + 3 * L[k].2.2.length : Nat) : Int) = ((k0 + cntR (l.take (k + 1)) : Nat) : Int)) := by show _ = _; rw [HN.out, HLK.out]
      rw [HV.out]
      clear hO3 hP3 hG3 HMV HR2 d1 d2 d3 f1 f2 HB2
      go_wp2_with fail
      go_roundw
      case rel => exact ⟨k + 1, by omega, by go_num, rfl, HO3.out, hB3⟩
      case measure => simp [intOf]; omega
    · have e : k = l.length := by omega
      subst e
      rw [markRTo_all] at hO
      have HO := Hid.mk' hO
      have HE : Hid (k0 + cntR (l.take l.length) = k0 + cntR l) := by show _ = _; rw [List.take_length]
      clear hO
      go_wp2_with fail
      go_ret
      exact ⟨ret_int (by rw [HE.out]), HO.out, hB⟩

set_option maxRecDepth 100000 in
set_option maxHeartbeats 2000000 in
theorem heldRecS (a : Option Addr) (len cap k0 : Nat) (l : List Rc) (w : World) (h : SlR w a len (markR k0 l)) (hk1 : 1 ≤ k0) (hk0 : k0 + cntR l ≤ 1099511627776) (hll : l.length ≤ 1099511627776) (K : Int) (hK : Hid (K = (k0 : Int))) :
    Calls Try.prog 23 #[.slice a len cap, .int .i64 K] w fun e w' => e = .returned (.int .i64 ((k0 + cntR l : Nat) : Int)) ∧ Below w.heap.size w w' := by
  have eK := hK.out
  subst eK
  clear hK
  have hl0 := h.1
  rw [markR_length] at hl0
  subst hl0
  have hc := h.2.2.2
  go_enter Try.func23, Try.ntmps23
  go_wp2_with fail
  go_loopw [1, 5] (fun kv i wr => ∃ k : Nat, k ≤ l.length ∧ i = .int .i64 k ∧ kv = .int .i64 ((k0 + cntR (l.take k) : Nat) : Int) ∧ Below w.heap.size w wr) (fun _ i _ => l.length - (intOf i).toNat)
  case atStart => exact ⟨0, Nat.zero_le _, rfl, rfl, Below.refl _ _⟩
  case round =>
    obtain ⟨k, hk, rfl, rfl, hB⟩ := hrel
    by_cases hlt : k < l.length
    · obtain ⟨b, off, ha⟩ : ∃ b off, a = some ⟨b, off, none⟩ := by
        obtain ⟨b, off, ha, _⟩ := hc (by omega)
        exact ⟨b, off, ha⟩
      subst ha
      have hkl : k < (markR k0 l).length := by rw [markR_length]; exact hlt
      have hit := (h.at k hkl).below hB
      rw [markR_at k0 l k hlt] at hit
      have hct := cntR_take l k hlt
      have hcl := cntR_take_le l (k + 1)
      have hki : (k : Int) < (l.length : Int) := by omega
      obtain ⟨c, hce⟩ : ∃ c, k0 + cntR (l.take k) = c := ⟨_, rfl⟩
      have hnext : k0 + cntR (l.take (k + 1)) = c + 2 + 3 * l[k].2.2.length := by omega
      rw [hce] at hit
      have hc2 : c + 2 + 3 * l[k].2.2.length ≤ 1099511627776 := by omega
      have hc1 : 1 ≤ c := by omega
      obtain ⟨c1, c2, pa, pl, pc, c3, hS, _⟩ := hit
      simp only [] at c1 c2 c3 hS
      rw [show ((c + 1 : Nat) : Int) = (c : Int) + 1 by omega] at c2
      have hpl := hS.1
      rw [marksO_length] at hpl
      rw [hpl] at hS hc2 hnext
      have HN := Hid.mk' hnext
      have HHO : Hid (∀ K, Hid (K = ((c + 2 : Nat) : Int)) → Calls Try.prog 51 #[.slice pa pl pc, .int .i64 K] wr fun e w' => e = .returned (.int .i64 ((c + 2 + 3 * pl : Nat) : Int)) ∧ Below wr.heap.size wr w') := fun K hK => by
        have e := hK.out
        subst e
        exact heldOpS pa pl pc (c + 2) wr hS (by omega) (by omega)
      rw [hce]
      clear hpl hnext hct hcl hS hkl hce h hc
      have hnn : ¬ ((c + 2 + 3 * pl : Nat) : Int) < 0 := by omega
      generalize hZ : c + 2 + 3 * pl = Z at *
      go_wp2_with fail
      refine (HHO.out _ (by show _ = _; omega)).mono ?_
      rintro e w9 ⟨rfl, hb9⟩
      have hB9 := hB.trans (hb9.mono hB.size)
      have HZN : Hid ((Z : Int) = ((k0 + cntR (l.take (k + 1)) : Nat) : Int)) := by show _ = _; rw [HN.out]
      clear HHO hb9 c1 c2 c3
      go_wp2_with fail
      go_roundw
      case rel => exact ⟨k + 1, by omega, by go_num, by rw [HZN.out], hB9⟩
      case measure => simp [intOf]; omega
    · have e : k = l.length := by omega
      subst e
      have HE : Hid (k0 + cntR (l.take l.length) = k0 + cntR l) := by show _ = _; rw [List.take_length]
      go_wp2_with fail
      go_ret
      exact ⟨ret_int (by rw [HE.out]), hB⟩
end Go.Proofs.Yteniflajiklffaa.recs
