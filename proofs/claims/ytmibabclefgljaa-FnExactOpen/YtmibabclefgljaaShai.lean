/- The laws' helpers for worlds: their sizes. An answer of one cell that is new. No function of the program is named here. -/
import Derived.Test.YtmibabclefgljaaShah
import Derived.Test.YtmibabclefgljaaShad
namespace Go.Proofs.Ytmibabclefgljaa.wos
open Go Go.RowKit Go.Proofs.Ytmibabclefgljaa.base Go.Proofs.Ytmibabclefgljaa.pairs Go.Proofs.Ytmibabclefgljaa.ords Go.Proofs.Ytmibabclefgljaa.lay
set_option linter.unusedVariables false
set_option linter.unusedSimpArgs false

def wdz (x : wds.Wd) : Nat := x.2.2.2.1.length + sumO x.2.2.2.1
def sumW (l : List wds.Wd) : Nat := (l.map wdz).sum
theorem sumW_take (l : List wds.Wd) (k : Nat) (h : k < l.length) : sumW (l.take (k + 1)) = sumW (l.take k) + wdz l[k] := by
  unfold sumW
  rw [List.take_succ_eq_append_getElem h, List.map_append, List.sum_append]; simp
theorem sumW_le (l : List wds.Wd) (k : Nat) : sumW (l.take k) ≤ sumW l := by
  conv => rhs; rw [← List.take_append_drop k l]
  unfold sumW
  rw [List.map_append, List.sum_append]; omega
theorem sumW_mem {l : List wds.Wd} {j : wds.Wd} (h : j ∈ l) : wdz j ≤ sumW l := by
  obtain ⟨i, hi, rfl⟩ := List.getElem_of_mem h
  have h1 := sumW_take l i hi
  have h2 := sumW_le l (i + 1)
  omega
def orz (x : Orr) : Nat := x.2.length + sumO x.2
def sumB (l : List Orr) : Nat := (l.map orz).sum
theorem sumB_take (l : List Orr) (k : Nat) (h : k < l.length) : sumB (l.take (k + 1)) = sumB (l.take k) + orz l[k] := by
  unfold sumB
  rw [List.take_succ_eq_append_getElem h, List.map_append, List.sum_append]; simp
theorem sumB_le (l : List Orr) (k : Nat) : sumB (l.take k) ≤ sumB l := by
  conv => rhs; rw [← List.take_append_drop k l]
  unfold sumB
  rw [List.map_append, List.sum_append]; omega
theorem sumB_mem {l : List Orr} {j : Orr} (h : j ∈ l) : orz j ≤ sumB l := by
  obtain ⟨i, hi, rfl⟩ := List.getElem_of_mem h
  have h1 := sumB_take l i hi
  have h2 := sumB_le l (i + 1)
  omega
def shz (x : recs.Shd) : Nat := recs.szSh x
def sumS (l : List recs.Shd) : Nat := (l.map shz).sum
theorem sumS_take (l : List recs.Shd) (k : Nat) (h : k < l.length) : sumS (l.take (k + 1)) = sumS (l.take k) + shz l[k] := by
  unfold sumS
  rw [List.take_succ_eq_append_getElem h, List.map_append, List.sum_append]; simp
theorem sumS_le (l : List recs.Shd) (k : Nat) : sumS (l.take k) ≤ sumS l := by
  conv => rhs; rw [← List.take_append_drop k l]
  unfold sumS
  rw [List.map_append, List.sum_append]; omega
theorem sumS_mem {l : List recs.Shd} {j : recs.Shd} (h : j ∈ l) : shz j ≤ sumS l := by
  obtain ⟨i, hi, rfl⟩ := List.getElem_of_mem h
  have h1 := sumS_take l i hi
  have h2 := sumS_le l (i + 1)
  omega
set_option maxRecDepth 100000 in
set_option maxHeartbeats 1000000 in
theorem szOrder (tx : Int) (oa : Option Addr) (ol oc : Nat) (ops : List Od) (L : Nat) (w : World) (h1 : SlO w oa ol ops) (hL : L ≤ 1099511627776) :
    Calls Try.prog 26 #[.agg #[.int .i64 tx, .slice oa ol oc], .int .i64 (L : Int)] w fun e w' => e = .returned (.int .i64 (pairs.szR L (ops.length + sumO ops))) ∧ Below w.heap.size w w' := by
  obtain ⟨W, hW⟩ : ∃ W, w.alloc (.cells #[.int .i64 tx, .slice oa ol oc] 79) = W := ⟨_, rfl⟩
  have hB : Below w.heap.size w W := by rw [← hW]; exact below_make
  have HW := Hid.mk' hW
  have hs := szOpS oa ol oc ops L W (h1.below hB) hL
  clear hW h1
  by_cases hc : ops.length + sumO ops ≤ L
  · rw [pairs.szR_pos hc] at hs ⊢
    have h3 : ¬ (L : Int) - ((ops.length + sumO ops : Nat) : Int) < 0 := by omega
    generalize (L : Int) - ((ops.length + sumO ops : Nat) : Int) = Z at *
    have HS := Hid.mk' hs
    clear hs hc
    go_enter Try.func26, Try.ntmps26
    go_wp2_with fail
    rw [HW.out]
    refine HS.out.mono ?_
    rintro e w1 ⟨rfl, hb1⟩
    have hB1 := hB.trans (hb1.mono hB.size)
    go_wp2_with fail
    go_ret
    exact ⟨rfl, hB1⟩
  · rw [pairs.szR_neg (by omega)] at hs ⊢
    have HS := Hid.mk' hs
    clear hs hc
    go_enter Try.func26, Try.ntmps26
    go_wp2_with fail
    rw [HW.out]
    refine HS.out.mono ?_
    rintro e w1 ⟨rfl, hb1⟩
    have hB1 := hB.trans (hb1.mono hB.size)
    go_wp2_with fail
    go_ret
    exact ⟨rfl, hB1⟩
set_option maxRecDepth 100000 in
set_option maxHeartbeats 2000000 in
theorem szOrderS (a : Option Addr) (len cap : Nat) (l : List Orr) (L : Nat) (w : World) (h : SlG ordR w a len l) (hL : L ≤ 1099511627776) :
    Calls Try.prog 12 #[.slice a len cap, .int .i64 (L : Int)] w fun e w' => e = .returned (.int .i64 (pairs.szR L (l.length + sumB l))) ∧ Below w.heap.size w w' := by
  have hl := h.1
  have hm := h.2.1
  subst hl
  unfold maxLen at hm
  by_cases hneg : L < l.length
  · rw [pairs.szR_neg (by omega)]
    have h1 : (L : Int) - (l.length : Int) < 0 := by omega
    go_enter Try.func12, Try.ntmps12
    go_wp2
    go_ret
    exact ⟨rfl, Below.refl _ _⟩
  · have h1 : ¬ (L : Int) - (l.length : Int) < 0 := by omega
    go_enter Try.func12, Try.ntmps12
    go_wp2_with fail
    go_loopw [1, 5] (fun lv i wr => ∃ k m : Nat, k ≤ l.length ∧ i = .int .i64 (k : Int) ∧ lv = .int .i64 (m : Int) ∧ m + (l.length + sumB (l.take k)) = L ∧ Below w.heap.size w wr) (fun _ i _ => l.length - (intOf i).toNat)
    case atStart => exact ⟨0, L - l.length, Nat.zero_le _, rfl, by go_num, by simp [sumB]; omega, Below.refl _ _⟩
    case round =>
      obtain ⟨k, m, hk, rfl, rfl, hmL, hB⟩ := hrel
      by_cases hlt : k < l.length
      · obtain ⟨b, off, ha⟩ := cos.slg_some h (by omega)
        subst ha
        obtain ⟨c0, oa, ol, oc, c1, hSo, _⟩ := ord_at (h.below hB) k hlt
        have hst := sumB_take l k hlt
        have hle := sumB_le l (k + 1)
        have hi1 : (k : Int) < (l.length : Int) := by omega
        have hmB : m ≤ 1099511627776 := by omega
        have HML := Hid.mk' hmL
        have HST := Hid.mk' hst
        have HLE := Hid.mk' hle
        generalize l[k] = p at *
        clear hmL hst hle
        have hcall : Calls Try.prog 26 #[.agg #[.int .i64 p.1, .slice oa ol oc], .int .i64 (m : Int)] wr fun e w' => e = .returned (.int .i64 (pairs.szR m (orz p))) ∧ Below wr.heap.size wr w' := szOrder p.1 oa ol oc p.2 m wr hSo hmB
        by_cases hover : m < orz p
        · rw [pairs.szR_neg hover] at hcall
          have HC := Hid.mk' hcall
          clear hcall
          go_wp2_with fail
          refine HC.out.mono ?_
          rintro e w2 ⟨rfl, hB2⟩
          go_wp2_with fail
          go_ret
          have e1 := HML.out
          have e2 := HST.out
          have e3 := HLE.out
          rw [pairs.szR_neg (by omega)]
          exact ⟨rfl, hB.trans (hB2.mono hB.size)⟩
        · rw [pairs.szR_pos (by omega), show (m : Int) - (orz p : Int) = ((m - orz p : Nat) : Int) by omega] at hcall
          have HC := Hid.mk' hcall
          obtain ⟨m2, hm2⟩ : ∃ m2, m - orz p = m2 := ⟨_, rfl⟩
          rw [hm2] at HC
          have HM2 := Hid.mk' hm2
          have hm2b : m2 ≤ 1099511627776 := by omega
          clear hcall hm2
          go_wp2_with fail
          refine HC.out.mono ?_
          rintro e w2 ⟨rfl, hB2⟩
          go_wp2_with fail
          go_roundw
          case rel => exact ⟨k + 1, m2, by omega, by go_num, rfl, by have e1 := HML.out; have e2 := HST.out; have e3 := HM2.out; omega, hB.trans (hB2.mono hB.size)⟩
          case measure => simp [intOf]; omega
      · have e : k = l.length := by omega
        subst e
        rw [List.take_length] at hmL
        go_wp2_with fail
        go_ret
        rw [pairs.szR_pos (by omega), show (L : Int) - ((l.length + sumB l : Nat) : Int) = (m : Int) by omega]
        exact ⟨rfl, hB⟩
set_option maxRecDepth 100000 in
set_option maxHeartbeats 2000000 in
theorem szWordS (a : Option Addr) (len cap : Nat) (l : List wds.Wd) (L : Nat) (w : World) (h : SlG cos.wordR w a len l) (hL : L ≤ 1099511627776) :
    Calls Try.prog 11 #[.slice a len cap, .int .i64 (L : Int)] w fun e w' => e = .returned (.int .i64 (pairs.szR L (l.length + sumW l))) ∧ Below w.heap.size w w' := by
  have hl := h.1
  have hm := h.2.1
  subst hl
  unfold maxLen at hm
  by_cases hneg : L < l.length
  · rw [pairs.szR_neg (by omega)]
    have h1 : (L : Int) - (l.length : Int) < 0 := by omega
    go_enter Try.func11, Try.ntmps11
    go_wp2
    go_ret
    exact ⟨rfl, Below.refl _ _⟩
  · have h1 : ¬ (L : Int) - (l.length : Int) < 0 := by omega
    go_enter Try.func11, Try.ntmps11
    go_wp2_with fail
    go_loopw [1, 5] (fun lv i wr => ∃ k m : Nat, k ≤ l.length ∧ i = .int .i64 (k : Int) ∧ lv = .int .i64 (m : Int) ∧ m + (l.length + sumW (l.take k)) = L ∧ Below w.heap.size w wr) (fun _ i _ => l.length - (intOf i).toNat)
    case atStart => exact ⟨0, L - l.length, Nat.zero_le _, rfl, by go_num, by simp [sumW]; omega, Below.refl _ _⟩
    case round =>
      obtain ⟨k, m, hk, rfl, rfl, hmL, hB⟩ := hrel
      by_cases hlt : k < l.length
      · obtain ⟨b, off, ha⟩ := cos.slg_some h (by omega)
        subst ha
        obtain ⟨oa, ol, oc, c0, c1, c2, c3, c4, hSo, _⟩ := word_at (h.below hB) k hlt
        have hst := sumW_take l k hlt
        have hle := sumW_le l (k + 1)
        have hi1 : (k : Int) < (l.length : Int) := by omega
        have hmB : m ≤ 1099511627776 := by omega
        have HML := Hid.mk' hmL
        have HST := Hid.mk' hst
        have HLE := Hid.mk' hle
        generalize l[k] = p at *
        clear hmL hst hle
        have hcall : Calls Try.prog 25 #[.agg #[.int .i64 p.1, .int .i64 p.2.1, .int .i64 p.2.2.1, .slice oa ol oc, .bool p.2.2.2.2], .int .i64 (m : Int)] wr fun e w' => e = .returned (.int .i64 (pairs.szR m (wdz p))) ∧ Below wr.heap.size wr w' := wds.szWordZ p.1 p.2.1 p.2.2.1 p.2.2.2.2 oa ol oc p.2.2.2.1 m wr hSo hmB
        by_cases hover : m < wdz p
        · rw [pairs.szR_neg hover] at hcall
          have HC := Hid.mk' hcall
          clear hcall
          go_wp2_with fail
          refine HC.out.mono ?_
          rintro e w2 ⟨rfl, hB2⟩
          go_wp2_with fail
          go_ret
          have e1 := HML.out
          have e2 := HST.out
          have e3 := HLE.out
          rw [pairs.szR_neg (by omega)]
          exact ⟨rfl, hB.trans (hB2.mono hB.size)⟩
        · rw [pairs.szR_pos (by omega), show (m : Int) - (wdz p : Int) = ((m - wdz p : Nat) : Int) by omega] at hcall
          have HC := Hid.mk' hcall
          obtain ⟨m2, hm2⟩ : ∃ m2, m - wdz p = m2 := ⟨_, rfl⟩
          rw [hm2] at HC
          have HM2 := Hid.mk' hm2
          have hm2b : m2 ≤ 1099511627776 := by omega
          clear hcall hm2
          go_wp2_with fail
          refine HC.out.mono ?_
          rintro e w2 ⟨rfl, hB2⟩
          go_wp2_with fail
          go_roundw
          case rel => exact ⟨k + 1, m2, by omega, by go_num, rfl, by have e1 := HML.out; have e2 := HST.out; have e3 := HM2.out; omega, hB.trans (hB2.mono hB.size)⟩
          case measure => simp [intOf]; omega
      · have e : k = l.length := by omega
        subst e
        rw [List.take_length] at hmL
        go_wp2_with fail
        go_ret
        rw [pairs.szR_pos (by omega), show (L : Int) - ((l.length + sumW l : Nat) : Int) = (m : Int) by omega]
        exact ⟨rfl, hB⟩
set_option maxRecDepth 100000 in
set_option maxHeartbeats 2000000 in
theorem szShardS (a : Option Addr) (len cap : Nat) (l : List recs.Shd) (L : Nat) (w : World) (h : SlG shardR w a len l) (hL : L ≤ 1099511627776) :
    Calls Try.prog 10 #[.slice a len cap, .int .i64 (L : Int)] w fun e w' => e = .returned (.int .i64 (pairs.szR L (l.length + sumS l))) ∧ Below w.heap.size w w' := by
  have hl := h.1
  have hm := h.2.1
  subst hl
  unfold maxLen at hm
  by_cases hneg : L < l.length
  · rw [pairs.szR_neg (by omega)]
    have h1 : (L : Int) - (l.length : Int) < 0 := by omega
    go_enter Try.func10, Try.ntmps10
    go_wp2
    go_ret
    exact ⟨rfl, Below.refl _ _⟩
  · have h1 : ¬ (L : Int) - (l.length : Int) < 0 := by omega
    go_enter Try.func10, Try.ntmps10
    go_wp2_with fail
    go_loopw [1, 5] (fun lv i wr => ∃ k m : Nat, k ≤ l.length ∧ i = .int .i64 (k : Int) ∧ lv = .int .i64 (m : Int) ∧ m + (l.length + sumS (l.take k)) = L ∧ Below w.heap.size w wr) (fun _ i _ => l.length - (intOf i).toNat)
    case atStart => exact ⟨0, L - l.length, Nat.zero_le _, rfl, by go_num, by simp [sumS]; omega, Below.refl _ _⟩
    case round =>
      obtain ⟨k, m, hk, rfl, rfl, hmL, hB⟩ := hrel
      by_cases hlt : k < l.length
      · obtain ⟨b, off, ha⟩ := cos.slg_some h (by omega)
        subst ha
        obtain ⟨la, ln, lc, ma, mn, mc, ha, hn, hc, c0, c1, c2, c3, c4, hSo⟩ := shard_at (h.below hB) k hlt
        have hst := sumS_take l k hlt
        have hle := sumS_le l (k + 1)
        have hi1 : (k : Int) < (l.length : Int) := by omega
        have hmB : m ≤ 1099511627776 := by omega
        have HML := Hid.mk' hmL
        have HST := Hid.mk' hst
        have HLE := Hid.mk' hle
        generalize l[k] = p at *
        clear hmL hst hle
        have hcall : Calls Try.prog 24 #[.agg #[.int .i64 p.1, .slice la ln lc, .int .i64 p.2.2.1, .slice ma mn mc, .slice ha hn hc], .int .i64 (m : Int)] wr fun e w' => e = .returned (.int .i64 (pairs.szR m (shz p))) ∧ Below wr.heap.size wr w' := recs.szShard la ln lc ma mn mc ha hn hc p m wr hSo hmB
        by_cases hover : m < shz p
        · rw [pairs.szR_neg hover] at hcall
          have HC := Hid.mk' hcall
          clear hcall
          go_wp2_with fail
          refine HC.out.mono ?_
          rintro e w2 ⟨rfl, hB2⟩
          go_wp2_with fail
          go_ret
          have e1 := HML.out
          have e2 := HST.out
          have e3 := HLE.out
          rw [pairs.szR_neg (by omega)]
          exact ⟨rfl, hB.trans (hB2.mono hB.size)⟩
        · rw [pairs.szR_pos (by omega), show (m : Int) - (shz p : Int) = ((m - shz p : Nat) : Int) by omega] at hcall
          have HC := Hid.mk' hcall
          obtain ⟨m2, hm2⟩ : ∃ m2, m - shz p = m2 := ⟨_, rfl⟩
          rw [hm2] at HC
          have HM2 := Hid.mk' hm2
          have hm2b : m2 ≤ 1099511627776 := by omega
          clear hcall hm2
          go_wp2_with fail
          refine HC.out.mono ?_
          rintro e w2 ⟨rfl, hB2⟩
          go_wp2_with fail
          go_roundw
          case rel => exact ⟨k + 1, m2, by omega, by go_num, rfl, by have e1 := HML.out; have e2 := HST.out; have e3 := HM2.out; omega, hB.trans (hB2.mono hB.size)⟩
          case measure => simp [intOf]; omega
      · have e : k = l.length := by omega
        subst e
        rw [List.take_length] at hmL
        go_wp2_with fail
        go_ret
        rw [pairs.szR_pos (by omega), show (L : Int) - ((l.length + sumS l : Nat) : Int) = (m : Int) by omega]
        exact ⟨rfl, hB⟩
def wsz (x : Wo) : Nat := (cos.csz x.1) + ((x.2.1.length + sumS x.2.1) + ((x.2.2.1.length + sumW x.2.2.1) + ((x.2.2.2.1.length + sumW x.2.2.2.1) + ((x.2.2.2.2.length + sumB x.2.2.2.2)))))
set_option maxRecDepth 100000 in
set_option maxHeartbeats 4000000 in
theorem szWorld (ja : Option Addr) (jn jc : Nat) (la : Option Addr) (ln lc : Nat) (sa : Option Addr) (sn sc : Nat) (na : Option Addr) (nn nc : Nat) (oa : Option Addr) (on oc : Nat) (ba : Option Addr) (bn bc : Nat) (x : Wo) (L : Nat) (w : World) (h : SeeWo w ja jn jc la ln lc sa sn sc na nn nc oa on oc ba bn bc x) (hL : L ≤ 1099511627776) :
    Calls Try.prog 4 #[.agg #[.int .i64 x.1.1, .int .i64 x.1.2.1, .int .i64 x.1.2.2.1, .slice ja jn jc, .slice la ln lc, .int .i64 x.1.2.2.2.2.2, .slice sa sn sc, .slice na nn nc, .slice oa on oc, .slice ba bn bc], .int .i64 (L : Int)] w fun e w' => e = .returned (.int .i64 (pairs.szR L (wsz x))) ∧ Below w.heap.size w w' := by
  obtain ⟨W, hW⟩ : ∃ W, w.alloc (.cells #[.int .i64 x.1.1, .int .i64 x.1.2.1, .int .i64 x.1.2.2.1, .slice ja jn jc, .slice la ln lc, .int .i64 x.1.2.2.2.2.2, .slice sa sn sc, .slice na nn nc, .slice oa on oc, .slice ba bn bc] 30) = W := ⟨_, rfl⟩
  have hB : Below w.heap.size w W := by rw [← hW]; exact below_make
  have hbx : BoxIn w.heap.size 30 [] [.int .i64 x.1.1, .int .i64 x.1.2.1, .int .i64 x.1.2.2.1, .slice ja jn jc, .slice la ln lc, .int .i64 x.1.2.2.2.2.2, .slice sa sn sc, .slice na nn nc, .slice oa on oc, .slice ba bn bc] [] W := by rw [← hW]; exact boxIn_new w _ _
  have HW := Hid.mk' hW
  have H0 := Hid.mk' (fun (M : Nat) (hM : M ≤ 1099511627776) wx (hb : Below W.heap.size W wx) => cos.szCoord ja jn jc la ln lc x.1 M wx ((h.co.below hB).below hb) hM)
  have H1 := Hid.mk' (fun (M : Nat) (hM : M ≤ 1099511627776) wx (hb : Below W.heap.size W wx) => szShardS sa sn sc x.2.1 M wx ((h.sh.below hB).below hb) hM)
  have H2 := Hid.mk' (fun (M : Nat) (hM : M ≤ 1099511627776) wx (hb : Below W.heap.size W wx) => szWordS na nn nc x.2.2.1 M wx ((h.net.below hB).below hb) hM)
  have H3 := Hid.mk' (fun (M : Nat) (hM : M ≤ 1099511627776) wx (hb : Below W.heap.size W wx) => szWordS oa on oc x.2.2.2.1 M wx ((h.outs.below hB).below hb) hM)
  have H4 := Hid.mk' (fun (M : Nat) (hM : M ≤ 1099511627776) wx (hb : Below W.heap.size W wx) => szOrderS ba bn bc x.2.2.2.2 M wx ((h.begun.below hB).below hb) hM)
  have HZ : Hid (wsz x = (cos.csz x.1) + ((x.2.1.length + sumS x.2.1) + ((x.2.2.1.length + sumW x.2.2.1) + ((x.2.2.2.1.length + sumW x.2.2.2.1) + ((x.2.2.2.2.length + sumB x.2.2.2.2)))))) := rfl
  generalize cos.csz x.1 = z0 at H0 HZ
  generalize x.2.1.length + sumS x.2.1 = z1 at H1 HZ
  generalize x.2.2.1.length + sumW x.2.2.1 = z2 at H2 HZ
  generalize x.2.2.2.1.length + sumW x.2.2.2.1 = z3 at H3 HZ
  generalize x.2.2.2.2.length + sumB x.2.2.2.2 = z4 at H4 HZ
  obtain ⟨x0, x1, x2, x3, x4, x5, x6, x7, x8, x9⟩ := cells10 hbx
  rw [← hW] at x0 x1 x2 x3 x4 x5 x6 x7 x8 x9
  clear hW h
  by_cases hc0 : z0 ≤ L
  rotate_left
  · have K0 := Hid.mk' (H0.out L hL)
    rw [pairs.szR_neg (by omega)] at K0
    have HR : Hid (pairs.szR L (wsz x) = -1) := by show _ = _; rw [HZ.out, pairs.szR_neg (by omega)]
    clear hc0 HZ
    go_enter Try.func4, Try.ntmps4
    go_wp2_with fail
    rw [HW.out]
    refine (K0.out W (Below.refl _ _)).mono ?_
    rintro e w1 ⟨rfl, hb1⟩
    clear x0 x1 x2 x3 x4 x5 x6 x7 x8 x9
    go_wp2_with fail
    go_ret
    exact ⟨ret_int HR.out.symm, hB.trans (hb1.mono hB.size)⟩
  have K0 := Hid.mk' (H0.out L hL)
  rw [pairs.szR_pos hc0] at K0
  obtain ⟨m1, e0⟩ : ∃ m : Nat, (L : Int) - (z0 : Int) = (m : Int) := ⟨L - z0, by omega⟩
  rw [e0] at K0
  have hm1 : m1 ≤ 1099511627776 := by omega
  have hp1 : ¬ (m1 : Int) < 0 := by omega
  by_cases hc1 : z1 ≤ m1
  rotate_left
  · have K1 := Hid.mk' (H1.out m1 hm1)
    rw [pairs.szR_neg (by omega)] at K1
    have HR : Hid (pairs.szR L (wsz x) = -1) := by show _ = _; rw [HZ.out, pairs.szR_neg (by omega)]
    clear hc1 HZ hc0 e0
    go_enter Try.func4, Try.ntmps4
    go_wp2_with fail
    rw [HW.out]
    refine (K0.out W (Below.refl _ _)).mono ?_
    rintro e w1 ⟨rfl, hb1⟩
    clear x0 x1 x2 x3 x4 x5 x6 x7 x8 x9
    obtain ⟨x0, x1, x2, x3, x4, x5, x6, x7, x8, x9⟩ := cells10 (hbx.below hb1)
    go_wp2_with fail
    refine (K1.out _ hb1).mono ?_
    rintro e w2 ⟨rfl, hn1⟩
    have hb2 := hb1.trans (hn1.mono hb1.size)
    clear x0 x1 x2 x3 x4 x5 x6 x7 x8 x9
    go_wp2_with fail
    go_ret
    exact ⟨ret_int HR.out.symm, hB.trans (hb2.mono hB.size)⟩
  have K1 := Hid.mk' (H1.out m1 hm1)
  rw [pairs.szR_pos hc1] at K1
  obtain ⟨m2, e1⟩ : ∃ m : Nat, (m1 : Int) - (z1 : Int) = (m : Int) := ⟨m1 - z1, by omega⟩
  rw [e1] at K1
  have hm2 : m2 ≤ 1099511627776 := by omega
  have hp2 : ¬ (m2 : Int) < 0 := by omega
  by_cases hc2 : z2 ≤ m2
  rotate_left
  · have K2 := Hid.mk' (H2.out m2 hm2)
    rw [pairs.szR_neg (by omega)] at K2
    have HR : Hid (pairs.szR L (wsz x) = -1) := by show _ = _; rw [HZ.out, pairs.szR_neg (by omega)]
    clear hc2 HZ hc0 e0 hc1 e1
    go_enter Try.func4, Try.ntmps4
    go_wp2_with fail
    rw [HW.out]
    refine (K0.out W (Below.refl _ _)).mono ?_
    rintro e w1 ⟨rfl, hb1⟩
    clear x0 x1 x2 x3 x4 x5 x6 x7 x8 x9
    obtain ⟨x0, x1, x2, x3, x4, x5, x6, x7, x8, x9⟩ := cells10 (hbx.below hb1)
    go_wp2_with fail
    refine (K1.out _ hb1).mono ?_
    rintro e w2 ⟨rfl, hn1⟩
    have hb2 := hb1.trans (hn1.mono hb1.size)
    clear x0 x1 x2 x3 x4 x5 x6 x7 x8 x9
    obtain ⟨x0, x1, x2, x3, x4, x5, x6, x7, x8, x9⟩ := cells10 (hbx.below hb2)
    go_wp2_with fail
    refine (K2.out _ hb2).mono ?_
    rintro e w3 ⟨rfl, hn2⟩
    have hb3 := hb2.trans (hn2.mono hb2.size)
    clear x0 x1 x2 x3 x4 x5 x6 x7 x8 x9
    go_wp2_with fail
    go_ret
    exact ⟨ret_int HR.out.symm, hB.trans (hb3.mono hB.size)⟩
  have K2 := Hid.mk' (H2.out m2 hm2)
  rw [pairs.szR_pos hc2] at K2
  obtain ⟨m3, e2⟩ : ∃ m : Nat, (m2 : Int) - (z2 : Int) = (m : Int) := ⟨m2 - z2, by omega⟩
  rw [e2] at K2
  have hm3 : m3 ≤ 1099511627776 := by omega
  have hp3 : ¬ (m3 : Int) < 0 := by omega
  by_cases hc3 : z3 ≤ m3
  rotate_left
  · have K3 := Hid.mk' (H3.out m3 hm3)
    rw [pairs.szR_neg (by omega)] at K3
    have HR : Hid (pairs.szR L (wsz x) = -1) := by show _ = _; rw [HZ.out, pairs.szR_neg (by omega)]
    clear hc3 HZ hc0 e0 hc1 e1 hc2 e2
    go_enter Try.func4, Try.ntmps4
    go_wp2_with fail
    rw [HW.out]
    refine (K0.out W (Below.refl _ _)).mono ?_
    rintro e w1 ⟨rfl, hb1⟩
    clear x0 x1 x2 x3 x4 x5 x6 x7 x8 x9
    obtain ⟨x0, x1, x2, x3, x4, x5, x6, x7, x8, x9⟩ := cells10 (hbx.below hb1)
    go_wp2_with fail
    refine (K1.out _ hb1).mono ?_
    rintro e w2 ⟨rfl, hn1⟩
    have hb2 := hb1.trans (hn1.mono hb1.size)
    clear x0 x1 x2 x3 x4 x5 x6 x7 x8 x9
    obtain ⟨x0, x1, x2, x3, x4, x5, x6, x7, x8, x9⟩ := cells10 (hbx.below hb2)
    go_wp2_with fail
    refine (K2.out _ hb2).mono ?_
    rintro e w3 ⟨rfl, hn2⟩
    have hb3 := hb2.trans (hn2.mono hb2.size)
    clear x0 x1 x2 x3 x4 x5 x6 x7 x8 x9
    obtain ⟨x0, x1, x2, x3, x4, x5, x6, x7, x8, x9⟩ := cells10 (hbx.below hb3)
    go_wp2_with fail
    refine (K3.out _ hb3).mono ?_
    rintro e w4 ⟨rfl, hn3⟩
    have hb4 := hb3.trans (hn3.mono hb3.size)
    clear x0 x1 x2 x3 x4 x5 x6 x7 x8 x9
    go_wp2_with fail
    go_ret
    exact ⟨ret_int HR.out.symm, hB.trans (hb4.mono hB.size)⟩
  have K3 := Hid.mk' (H3.out m3 hm3)
  rw [pairs.szR_pos hc3] at K3
  obtain ⟨m4, e3⟩ : ∃ m : Nat, (m3 : Int) - (z3 : Int) = (m : Int) := ⟨m3 - z3, by omega⟩
  rw [e3] at K3
  have hm4 : m4 ≤ 1099511627776 := by omega
  have hp4 : ¬ (m4 : Int) < 0 := by omega
  by_cases hc4 : z4 ≤ m4
  rotate_left
  · have K4 := Hid.mk' (H4.out m4 hm4)
    rw [pairs.szR_neg (by omega)] at K4
    have HR : Hid (pairs.szR L (wsz x) = -1) := by show _ = _; rw [HZ.out, pairs.szR_neg (by omega)]
    clear hc4 HZ hc0 e0 hc1 e1 hc2 e2 hc3 e3
    go_enter Try.func4, Try.ntmps4
    go_wp2_with fail
    rw [HW.out]
    refine (K0.out W (Below.refl _ _)).mono ?_
    rintro e w1 ⟨rfl, hb1⟩
    clear x0 x1 x2 x3 x4 x5 x6 x7 x8 x9
    obtain ⟨x0, x1, x2, x3, x4, x5, x6, x7, x8, x9⟩ := cells10 (hbx.below hb1)
    go_wp2_with fail
    refine (K1.out _ hb1).mono ?_
    rintro e w2 ⟨rfl, hn1⟩
    have hb2 := hb1.trans (hn1.mono hb1.size)
    clear x0 x1 x2 x3 x4 x5 x6 x7 x8 x9
    obtain ⟨x0, x1, x2, x3, x4, x5, x6, x7, x8, x9⟩ := cells10 (hbx.below hb2)
    go_wp2_with fail
    refine (K2.out _ hb2).mono ?_
    rintro e w3 ⟨rfl, hn2⟩
    have hb3 := hb2.trans (hn2.mono hb2.size)
    clear x0 x1 x2 x3 x4 x5 x6 x7 x8 x9
    obtain ⟨x0, x1, x2, x3, x4, x5, x6, x7, x8, x9⟩ := cells10 (hbx.below hb3)
    go_wp2_with fail
    refine (K3.out _ hb3).mono ?_
    rintro e w4 ⟨rfl, hn3⟩
    have hb4 := hb3.trans (hn3.mono hb3.size)
    clear x0 x1 x2 x3 x4 x5 x6 x7 x8 x9
    obtain ⟨x0, x1, x2, x3, x4, x5, x6, x7, x8, x9⟩ := cells10 (hbx.below hb4)
    go_wp2_with fail
    refine (K4.out _ hb4).mono ?_
    rintro e w5 ⟨rfl, hn4⟩
    have hb5 := hb4.trans (hn4.mono hb4.size)
    clear x0 x1 x2 x3 x4 x5 x6 x7 x8 x9
    go_wp2_with fail
    go_ret
    exact ⟨ret_int HR.out.symm, hB.trans (hb5.mono hB.size)⟩
  have K4 := Hid.mk' (H4.out m4 hm4)
  rw [pairs.szR_pos hc4] at K4
  obtain ⟨m5, e4⟩ : ∃ m : Nat, (m4 : Int) - (z4 : Int) = (m : Int) := ⟨m4 - z4, by omega⟩
  rw [e4] at K4
  have hm5 : m5 ≤ 1099511627776 := by omega
  have hp5 : ¬ (m5 : Int) < 0 := by omega
  have HR : Hid (pairs.szR L (wsz x) = (m5 : Int)) := by show _ = _; rw [HZ.out, pairs.szR_pos (by omega)]; omega
  clear HZ hc0 hc1 hc2 hc3 hc4 e0 e1 e2 e3 e4
  go_enter Try.func4, Try.ntmps4
  go_wp2_with fail
  rw [HW.out]
  refine (K0.out W (Below.refl _ _)).mono ?_
  rintro e w1 ⟨rfl, hb1⟩
  clear x0 x1 x2 x3 x4 x5 x6 x7 x8 x9
  obtain ⟨x0, x1, x2, x3, x4, x5, x6, x7, x8, x9⟩ := cells10 (hbx.below hb1)
  go_wp2_with fail
  refine (K1.out _ hb1).mono ?_
  rintro e w2 ⟨rfl, hn1⟩
  have hb2 := hb1.trans (hn1.mono hb1.size)
  clear x0 x1 x2 x3 x4 x5 x6 x7 x8 x9
  obtain ⟨x0, x1, x2, x3, x4, x5, x6, x7, x8, x9⟩ := cells10 (hbx.below hb2)
  go_wp2_with fail
  refine (K2.out _ hb2).mono ?_
  rintro e w3 ⟨rfl, hn2⟩
  have hb3 := hb2.trans (hn2.mono hb2.size)
  clear x0 x1 x2 x3 x4 x5 x6 x7 x8 x9
  obtain ⟨x0, x1, x2, x3, x4, x5, x6, x7, x8, x9⟩ := cells10 (hbx.below hb3)
  go_wp2_with fail
  refine (K3.out _ hb3).mono ?_
  rintro e w4 ⟨rfl, hn3⟩
  have hb4 := hb3.trans (hn3.mono hb3.size)
  clear x0 x1 x2 x3 x4 x5 x6 x7 x8 x9
  obtain ⟨x0, x1, x2, x3, x4, x5, x6, x7, x8, x9⟩ := cells10 (hbx.below hb4)
  go_wp2_with fail
  refine (K4.out _ hb4).mono ?_
  rintro e w5 ⟨rfl, hn4⟩
  have hb5 := hb4.trans (hn4.mono hb4.size)
  clear x0 x1 x2 x3 x4 x5 x6 x7 x8 x9
  go_wp2_with fail
  go_ret
  exact ⟨ret_int HR.out.symm, hB.trans (hb5.mono hB.size)⟩
end Go.Proofs.Ytmibabclefgljaa.wos

namespace Go.Proofs.Ytmibabclefgljaa.lay
open Go Go.RowKit
def RetV {α : Type} (R : Rd α) (w : World) (x : α) (e : Ending) (w' : World) : Prop := ∃ v F, e = .returned v ∧ R.own w' [v] x F ∧ (∀ k ∈ F, w.heap.size ≤ k) ∧ Below w.heap.size w w'
theorem slice_shape {α : Type} {ty : TypeId} {R : Rd α} {w : World} {v : Value} {l : List α} {F : List Nat} (h : (lay.slice ty R).own w [v] l F) : ∃ a n c, v = .slice a n c := by
  obtain ⟨v', q, e, _, h⟩ := h
  cases e
  rcases h.shape with ⟨e, _⟩ | ⟨g, c, e, _⟩
  · exact ⟨_, _, _, e⟩
  · exact ⟨_, _, _, e⟩
end Go.Proofs.Ytmibabclefgljaa.lay
