/- The laws' own harness at slices of records: made anew, and counted. The specification's replay: one record more, whatever it is; and all of them. The specification's ReplayRecs. What the exact law of ReplayRecs keeps from step to step: the records that were handed in, the answer's pairs and records and the specification's. A slice of records that came in. -/
import Derived.Test.YtooiinicnkhlbaaRecHC
import Derived.Test.YtooiinicnkhlbaaRecHB
import Derived.Test.YtooiinicnkhlbaaBnrc
import Derived.Test.YtooiinicnkhlbaaBnrd
import Derived.Test.YtooiinicnkhlbaaHelpQ
namespace Go.Proofs.Ytooiinicnkhlbaa.recs
open Go Go.RowKit Go.Proofs.Ytooiinicnkhlbaa.base Go.Proofs.Ytooiinicnkhlbaa.pairs Go.Proofs.Ytooiinicnkhlbaa.ords
set_option linter.unusedVariables false
set_option linter.unusedSimpArgs false

theorem recVals_put (l : List Rc) (hs : List Value) (h : hs.length = l.length) (i : Nat) (hi : i < l.length) (x : Rc) (y : Value) : (((recVals l hs).set (i * 3) (.int .i64 x.1)).set (i * 3 + 1) (.int .i64 x.2.1)).set (i * 3 + 2) y = recVals (l.set i x) (hs.set i y) := by
  induction l generalizing hs i with
  | nil => simp at hi
  | cons r l ih =>
    cases hs with
    | nil => simp at h
    | cons u hs =>
      cases i with
      | zero => rfl
      | succ i =>
        rw [recVals_cons, show (i + 1) * 3 = i * 3 + 1 + 1 + 1 by omega, show i * 3 + 1 + 1 + 1 + 1 = (i * 3 + 1) + 1 + 1 + 1 by omega, show i * 3 + 1 + 1 + 1 + 2 = (i * 3 + 2) + 1 + 1 + 1 by omega]
        simp only [List.set_cons_succ, recVals_cons]
        rw [ih hs (by simpa using h) i (by simpa using hi)]
/-- one record written into its place -/
theorem OwnR.put {w : World} {base g n cap : Nat} {l : List Rc} {hs : List Value} (h : OwnR w base (.slice (some ⟨g, 0, none⟩) n cap) l hs) (i : Nat) (hi : i < l.length) (x : Rc) (y : Value) (hx : smallR x) (hy : OwnV w base y x.2.2) (hout : ∀ k, y.ownBlock = some k → ¬ BlkR (.slice (some ⟨g, 0, none⟩) n cap) hs k) :
    OwnR (((w.setCell ⟨g, i * 3, none⟩ (.int .i64 x.1)).setCell ⟨g, i * 3 + 1, none⟩ (.int .i64 x.2.1)).setCell ⟨g, i * 3 + 2, none⟩ y) base (.slice (some ⟨g, 0, none⟩) n cap) (l.set i x) (hs.set i y) ∧
      w.grownBy (((w.setCell ⟨g, i * 3, none⟩ (.int .i64 x.1)).setCell ⟨g, i * 3 + 1, none⟩ (.int .i64 x.2.1)).setCell ⟨g, i * 3 + 2, none⟩ y) (some g) := by
  obtain rfl := h.nlen
  have hlen := h.len
  have s0 := h.row.stored (i * 3) (.int .i64 x.1)
  have s1 := s0.1.stored (i * 3 + 1) (.int .i64 x.2.1)
  have s2 := s1.1.stored (i * 3 + 2) y
  rw [recVals_put l hs h.len i hi x y] at s2
  have hg := grownBy_trans (grownBy_trans s0.2 s1.2) s2.2
  have hyg : y.ownBlock ≠ some g := fun e => hout g e (.inl rfl)
  refine ⟨⟨by simpa using h.len, mem_set_smallR h.sm hx, by simpa using s2.1, fun j hj => ?_, ?_, ?_⟩, hg⟩
  · have hjl : j < l.length := by simpa using hj
    by_cases e : i = j
    · subst e
      rw [List.getElem_set_self, List.getElem_set_self]
      exact hy.grown hg (.inr hyg)
    · rw [List.getElem_set_ne e, List.getElem_set_ne e]
      exact (h.ops j hjl).grown hg (.inr (h.out g rfl _ (List.getElem_mem _)))
  · rw [List.pairwise_iff_getElem]
    intro a b ha hb hab
    have ha' : a < hs.length := by simpa using ha
    have hb' : b < hs.length := by simpa using hb
    have hp := List.pairwise_iff_getElem.1 h.apart a b ha' hb' hab
    by_cases ea : i = a
    · subst ea
      rw [List.getElem_set_self, List.getElem_set_ne (by omega)]
      cases e : y.ownBlock with
      | none => exact .inl rfl
      | some k => exact .inr (fun e2 => hout k e (.inr ⟨hs[b], List.getElem_mem _, e2.symm⟩))
    · rw [List.getElem_set_ne ea]
      by_cases eb : i = b
      · subst eb
        rw [List.getElem_set_self]
        cases e : hs[a].ownBlock with
        | none => exact .inl rfl
        | some k => exact .inr (fun e2 => hout k e2.symm (.inr ⟨hs[a], List.getElem_mem _, e⟩))
      · rw [List.getElem_set_ne eb]; exact hp
  · intro k hk z hz
    rcases List.mem_or_eq_of_mem_set hz with h1 | h1
    · exact h.out k hk z h1
    · subst h1
      have : k = g := by simpa [Value.ownBlock] using hk.symm
      rw [this]; exact hyg
/-- the records that are there, the zero one behind them -/
def copyR (l : List Rc) (k : Nat) : List Rc := l.take k ++ List.replicate (l.length - k) (0, 0, [])
theorem copyR_length (l : List Rc) (k : Nat) (h : k ≤ l.length) : (copyR l k).length = l.length := by simp [copyR]; omega
theorem copyR_set (l : List Rc) (k : Nat) (h : k < l.length) : (copyR l k).set k l[k] = copyR l (k + 1) := by
  unfold copyR
  rw [List.take_succ_eq_append_getElem h]
  have e1 : (l.take k).length = k := by simp; omega
  have e2 : l.length - k = (l.length - (k + 1)) + 1 := by omega
  rw [List.set_append_right _ _ (by omega), e1, Nat.sub_self, e2, List.replicate_succ, List.set_cons_zero, List.append_assoc]
  rfl
theorem copyR_all (l : List Rc) : copyR l l.length = l := by simp [copyR]
theorem recVals_rep (n : Nat) : recVals (List.replicate n (0, 0, [])) (List.replicate n (.slice none 0 0)) = (madeCells (Value.agg #[.int .i64 0, .int .i64 0, .slice none 0 0]).cells (n * 3)).toList := by
  apply List.ext_getElem?
  intro j
  by_cases hj : j < n * 3
  · have hd : j / 3 < n := by omega
    have hc := recVals_get (List.replicate n ((0, 0, []) : Rc)) (List.replicate n (.slice none 0 0)) (by simp) (j / 3) (by simpa using hd)
    have hmod : j % 3 = 0 ∨ j % 3 = 1 ∨ j % 3 = 2 := by omega
    rcases hmod with h3 | h3 | h3
    · have e : j = j / 3 * 3 := by omega
      conv => lhs; rw [e, hc.1]
      simp [madeCells, h3, hj, Value.cells]
    · have e : j = j / 3 * 3 + 1 := by omega
      conv => lhs; rw [e, hc.2.1]
      simp [madeCells, h3, hj, Value.cells]
    · have e : j = j / 3 * 3 + 2 := by omega
      conv => lhs; rw [e, hc.2.2]
      simp [madeCells, h3, hj, Value.cells]
  · rw [List.getElem?_eq_none (by rw [recVals_length _ _ (by simp)]; simp; omega), List.getElem?_eq_none (by simp [madeCells]; omega)]
theorem infoRH : (Try.prog.info? 32).map (fun i => (i.zero, i.size, i.bytes)) = some (some (.agg #[.int .i64 0, .int .i64 0, .slice none 0 0]), 3, 40) := by kernel_rfl
theorem copyR_small {l : List Rc} (k : Nat) (h : ∀ x ∈ l, smallR x) : ∀ x ∈ copyR l k, smallR x := by
  intro x hx
  rcases List.mem_append.1 hx with h1 | h1
  · exact h x (List.mem_of_mem_take h1)
  · obtain rfl := (List.mem_replicate.1 h1).2
    exact ⟨rfl, rfl, fun o ho => absurd ho List.not_mem_nil⟩

set_option maxRecDepth 100000 in
set_option maxHeartbeats 2000000 in
theorem toRecS (a : Option Addr) (len cap : Nat) (l : List Rc) (w : World) (h : SlR w a len l) (hsz : len ≤ 1099511627776) (hops : ∀ r ∈ l, r.2.2.length ≤ 1099511627776) :
    Calls Try.prog 18 #[.slice a len cap] w fun e w' => ∃ g hs, e = .returned (.slice (some ⟨g, 0, none⟩) len len) ∧ OwnR w' w.heap.size (.slice (some ⟨g, 0, none⟩) len len) l hs ∧ Below w.heap.size w w' := by
  obtain ⟨hl, hm, hsm, hc⟩ := id h
  subst hl
  have hm' := hm
  unfold maxLen at hm'
  obtain ⟨i0, hif, hz0, hz1, hz2⟩ := info_parts infoRH
  go_enter Try.func18, Try.ntmps18
  go_wp2_with (at_make; refine wpList_make_full _ rfl _ _ 24 rfl w.heap.size 32 i0 (.agg #[.int .i64 0, .int .i64 0, .slice none 0 0]) 3 Try.underlying24 hif hz0 hz1 _ _ _ _ l.length rfl rfl rfl rfl ?b2 ?b3 ?b4 ?_)
  case b2 => rw [hz2]; omega
  case b3 => exact hm
  case b4 => exact Nat.le_refl _
  intro w1 hown hgrow
  have hOwn : OwnR w1 w.heap.size (.slice (some ⟨w.heap.size, 0, none⟩) l.length l.length) (copyR l 0) (List.replicate l.length (.slice none 0 0)) := by
    have e0 : copyR l 0 = List.replicate l.length (0, 0, []) := by simp [copyR]
    refine ⟨by rw [e0]; simp, copyR_small 0 hsm, ?_, fun i hi => ?_, ?_, ?_⟩
    · rw [e0, recVals_rep, List.length_replicate]; exact hown
    · have hi' : i < l.length := by rw [e0] at hi; simpa using hi
      simp only [e0, List.getElem_replicate]
      exact ownV_nil _ _
    · rw [List.pairwise_iff_getElem]
      intro x y hx hy hxy
      left
      rw [List.getElem_replicate]; rfl
    · intro k hk y hy
      obtain rfl := (List.mem_replicate.1 hy).2
      simp [Value.ownBlock]
  have hbel : Below w.heap.size w w1 := (Below.refl _ _).grown hgrow (Nat.le_refl _) (fun k e => by cases e)
  clear hown hgrow hif hz0 hz1 hz2
  go_wp2_with fail
  go_loopw [4] (fun i wr => ∃ (k : Nat) (hs : List Value), k ≤ l.length ∧ i = .int .i64 k ∧ OwnR wr w.heap.size (.slice (some ⟨w.heap.size, 0, none⟩) l.length l.length) (copyR l k) hs ∧ Below w.heap.size w wr) (fun i _ => l.length - (intOf i).toNat)
  case atStart => exact ⟨0, _, Nat.zero_le _, rfl, hOwn, hbel⟩
  case round =>
    clear hOwn hbel
    obtain ⟨k, hs, hk, rfl, hO, hB⟩ := hrel
    by_cases hlt : k < l.length
    · obtain ⟨b, off, ha, _⟩ := hc (by omega)
      subst ha
      obtain ⟨c0, c1, pa, pl, pc, c2, hSo, _⟩ := (h.at k hlt).below hB
      have hpk := hsm _ (List.getElem_mem hlt)
      have hki : (k : Int) < (l.length : Int) := by omega
      have HS := Hid.mk' (copyR_set l k hlt)
      have hol := hops _ (List.getElem_mem hlt)
      have hpl := hSo.1
      generalize l[k] = p at *
      clear hc
      go_wp2_with fail
      refine (toRec p.1 p.2.1 pa pl pc p.2.2 _ hSo (by omega)).mono ?_
      rintro e w2 ⟨g2, rfl, hO2, hb2⟩
      have hOR := hO.below hb2
      have hB2 := hB.trans (hb2.mono hB.size)
      have hkl : k < (copyR l k).length := by rw [copyR_length l k hk]; exact hlt
      have hV2 := (ownV_of hO2).mono (base' := w.heap.size) hB.size
      have hg2 := hO2.lt
      have R := hOR.put k hkl p (.slice (some ⟨g2, 0, none⟩) pl pl) hpk hV2 (fun j hj hb => by
        have e1 : g2 = j := by simpa [Value.ownBlock] using hj
        have := (hO.lt j hb).2
        omega)
      rw [HS.out] at R
      have HR := Hid.mk' R
      obtain ⟨d0, d1, d2⟩ := hOR.at k hkl
      have f0 := hOR.frozen (k * 3)
      have f1 := hOR.frozen (k * 3 + 1)
      have f2 := hOR.frozen (k * 3 + 2)
      generalize (copyR l k)[k].1 = z0 at *
      generalize (copyR l k)[k].2.1 = z1 at *
      generalize hs[k]'(by have := hO.len; omega) = z2 at *
      have hsz2 := hB2.size
      clear R hO hOR hO2 hV2 hB hb2 c0 c1 c2 hSo
      go_wp2_with fail
      go_roundw
      case rel => exact ⟨k + 1, _, by omega, by go_num, HR.out.1, hB2.trans (below_grown HR.out.2 (Nat.le_refl _) hsz2)⟩
      case measure => simp [intOf]; omega
    · have e : k = l.length := by omega
      subst e
      rw [copyR_all] at hO
      go_wp2_with fail
      go_ret
      exact ⟨_, _, rfl, hO, hB⟩
def rsz (r : Rc) : Nat := r.2.2.length + sumO r.2.2
def sumR (l : List Rc) : Nat := (l.map rsz).sum
theorem sumR_take (l : List Rc) (k : Nat) (h : k < l.length) : sumR (l.take (k + 1)) = sumR (l.take k) + rsz l[k] := by
  unfold sumR
  rw [List.take_succ_eq_append_getElem h, List.map_append, List.sum_append]; simp
theorem sumR_le (l : List Rc) (k : Nat) : sumR (l.take k) ≤ sumR l := by
  conv => rhs; rw [← List.take_append_drop k l]
  unfold sumR
  rw [List.map_append, List.sum_append]; omega
theorem sumR_mem {l : List Rc} {r : Rc} (h : r ∈ l) : rsz r ≤ sumR l := by
  obtain ⟨i, hi, rfl⟩ := List.getElem_of_mem h
  have h1 := sumR_take l i hi
  have h2 := sumR_le l (i + 1)
  omega

set_option maxRecDepth 100000 in
set_option maxHeartbeats 2000000 in
theorem szRecS (a : Option Addr) (len cap : Nat) (l : List Rc) (L : Nat) (w : World) (h : SlR w a len l) (hL : L ≤ 1099511627776) :
    Calls Try.prog 17 #[.slice a len cap, .int .i64 (L : Int)] w fun e w' => e = .returned (.int .i64 (pairs.szR L (l.length + sumR l))) ∧ Below w.heap.size w w' := by
  obtain ⟨hl, hm, hsm, hc⟩ := id h
  subst hl
  unfold maxLen at hm
  by_cases hneg : L < l.length
  · rw [pairs.szR_neg (by omega)]
    have h1 : (L : Int) - (l.length : Int) < 0 := by omega
    go_enter Try.func17, Try.ntmps17
    go_wp2
    go_ret
    exact ⟨rfl, Below.refl _ _⟩
  · have h1 : ¬ (L : Int) - (l.length : Int) < 0 := by omega
    go_enter Try.func17, Try.ntmps17
    go_wp2_with fail
    go_loopw [1, 5] (fun lv i wr => ∃ k m : Nat, k ≤ l.length ∧ i = .int .i64 (k : Int) ∧ lv = .int .i64 (m : Int) ∧ m + (l.length + sumR (l.take k)) = L ∧ Below w.heap.size w wr) (fun _ i _ => l.length - (intOf i).toNat)
    case atStart => exact ⟨0, L - l.length, Nat.zero_le _, rfl, by go_num, by simp [sumR]; omega, Below.refl _ _⟩
    case round =>
      obtain ⟨k, m, hk, rfl, rfl, hmL, hB⟩ := hrel
      by_cases hlt : k < l.length
      · obtain ⟨b, off, ha, _⟩ := hc (by omega)
        subst ha
        obtain ⟨c0, c1, pa, pl, pc, c2, hSo, _⟩ := (h.at k hlt).below hB
        have hst := sumR_take l k hlt
        have hle := sumR_le l (k + 1)
        have hi1 : (k : Int) < (l.length : Int) := by omega
        have hmB : m ≤ 1099511627776 := by omega
        have HML := Hid.mk' hmL
        have HST := Hid.mk' hst
        have HLE := Hid.mk' hle
        generalize l[k] = p at *
        clear hc hsm hmL hst hle
        have hcall : Calls Try.prog 12 #[.agg #[.int .i64 p.1, .int .i64 p.2.1, .slice pa pl pc], .int .i64 (m : Int)] wr fun e w' => e = .returned (.int .i64 (pairs.szR m (rsz p))) ∧ Below wr.heap.size wr w' := szRec p.1 p.2.1 pa pl pc p.2.2 m wr hSo hmB
        by_cases hover : m < rsz p
        · rw [pairs.szR_neg hover] at hcall
          have HC := Hid.mk' hcall
          clear hcall
          go_wp2_with fail
          refine HC.out.mono ?_
          rintro e w2 ⟨rfl, hB2⟩
          go_wp2_with fail
          go_ret
          have e1 := HML.out
          have e2 := HST.out
          have e3 := HLE.out
          rw [pairs.szR_neg (by omega)]
          exact ⟨rfl, hB.trans (hB2.mono hB.size)⟩
        · rw [pairs.szR_pos (by omega), show (m : Int) - (rsz p : Int) = ((m - rsz p : Nat) : Int) by omega] at hcall
          have HC := Hid.mk' hcall
          obtain ⟨m2, hm2⟩ : ∃ m2, m - rsz p = m2 := ⟨_, rfl⟩
          rw [hm2] at HC
          have HM2 := Hid.mk' hm2
          have hm2b : m2 ≤ 1099511627776 := by omega
          clear hcall hm2
          go_wp2_with fail
          refine HC.out.mono ?_
          rintro e w2 ⟨rfl, hB2⟩
          go_wp2_with fail
          go_roundw
          case rel => exact ⟨k + 1, m2, by omega, by go_num, rfl, by have e1 := HML.out; have e2 := HST.out; have e3 := HM2.out; omega, hB.trans (hB2.mono hB.size)⟩
          case measure => simp [intOf]; omega
      · have e : k = l.length := by omega
        subst e
        rw [List.take_length] at hmL
        go_wp2_with fail
        go_ret
        rw [pairs.szR_pos (by omega), show (L : Int) - ((l.length + sumR l : Nat) : Int) = (m : Int) by omega]
        exact ⟨rfl, hB⟩
end Go.Proofs.Ytooiinicnkhlbaa.recs

namespace Go.Proofs.Ytooiinicnkhlbaa.recs
open Go Go.RowKit Go.Proofs.Ytooiinicnkhlbaa.base Go.Proofs.Ytooiinicnkhlbaa.pairs Go.Proofs.Ytooiinicnkhlbaa.ords
set_option linter.unusedVariables false
set_option linter.unusedSimpArgs false

theorem spec_one (w0 w : World) (X gm nm cm gh ch : Nat) (vs : Value) (s : St) (hs : List Value) (kind tx : Int) (a : Option Addr) (len cap : Nat) (ops : List Od)
    (hK : Kept w0 w X gm nm cm gh ch vs s hs) (hSo : SlO w a len ops) (hks : ∀ p ∈ ops, p.2.1.size ≤ 1099511627776) (hsr : smallR (kind, tx, ops)) (hlen : len ≤ 1099511627776) (hlh : s.2.1.length ≤ 1099511627776) (hls : s.2.2.length ≤ 1099511627776) (hfew : s.1.length ≤ 60)
    (h8 : ∀ k, k < s.2.1.length → (opsAt s.2.1 k).length ≤ 8) :
    Calls Try.prog 34 #[.pointer (some ⟨X, 0, none⟩), .agg #[.int .i64 kind, .int .i64 tx, .slice a len cap]] w (OnePost w0 X (one s (kind, tx, ops))) := by
  cases hok : recOk (kind, tx, ops) with
  | false =>
    have e : one s (kind, tx, ops) = none := by unfold one; rw [hok]; rfl
    rw [e]
    exact one_bad w0 w X gm nm cm gh ch vs s hs kind tx a len cap ops hK hSo hks hok
  | true =>
    have hkk : kind = 1 ∨ kind = 2 ∨ kind = 3 := by
      obtain ⟨_, ⟨h1, _⟩ | ⟨h1, _⟩⟩ := (recOk_iff _).1 hok
      · exact .inl h1
      · rcases h1 with h1 | h1
        · exact .inr (.inl h1)
        · exact .inr (.inr h1)
    rcases hkk with rfl | rfl | rfl
    · have e0 : one s (1, tx, ops) = if decide (tx ∈ s.2.2) = true ∨ locked s.2.1 ops = true ∨ meets s.1 ops = false then none else some (s.1, s.2.1 ++ [(1, tx, ops)], s.2.2 ++ [tx]) := by
        unfold one; rw [if_pos hok, if_pos rfl]
      rw [e0]
      cases h1 : decide (tx ∈ s.2.2) with
      | true => rw [if_pos (.inl rfl)]; exact one_has w0 w X gm nm cm gh ch vs s hs tx a len cap ops hK hSo hks hok h1
      | false =>
        cases h2 : locked s.2.1 ops with
        | true => rw [if_pos (.inr (.inl rfl))]; exact one_locked w0 w X gm nm cm gh ch vs s hs tx a len cap ops hK hSo hks hok h1 h2
        | false =>
          cases h3 : meets s.1 ops with
          | false => rw [if_pos (.inr (.inr rfl))]; exact one_unmet w0 w X gm nm cm gh ch vs s hs tx a len cap ops hK hSo hks hok h1 h2 h3
          | true => rw [if_neg (by simp)]; exact one_hold w0 w X gm nm cm gh ch vs s hs tx a len cap ops hK hSo hks hok hsr hlen hlh hls h1 h2 h3
    · cases hpl : placeTx tx s.2.1 with
      | none =>
        have e0 : one s (2, tx, ops) = none := by
          unfold one; rw [if_pos hok, if_neg (by simp)]; simp only [hpl]; rw [if_neg (by simp)]
        rw [e0]
        exact one_lost w0 w X gm nm cm gh ch vs s hs tx a len cap ops hK hSo hks hok hls hpl
      | some k =>
        have e0 : one s (2, tx, ops) = if (applyAll s.1 (opsAt s.2.1 k)).length ≤ 60 then some (applyAll s.1 (opsAt s.2.1 k), s.2.1.take k ++ s.2.1.drop (k + 1), s.2.2) else none := by
          unfold one; rw [if_pos hok, if_neg (by simp)]; simp only [hpl]; unfold nextM; simp only [if_true]
        rw [e0]
        have hk8 := h8 k (placeTx_lt hpl)
        by_cases h60 : (applyAll s.1 (opsAt s.2.1 k)).length ≤ 60
        · rw [if_pos h60]; exact one_done w0 w X gm nm cm gh ch vs s hs tx a len cap ops hK hSo hks hok k hlh hpl hfew hk8 h60
        · rw [if_neg h60]; exact one_over w0 w X gm nm cm gh ch vs s hs tx a len cap ops hK hSo hks hok k hlh hpl hfew hk8 (by omega)
    · cases hpl : placeTx tx s.2.1 with
      | none =>
        by_cases h1 : tx ∈ s.2.2
        · have e0 : one s (3, tx, ops) = none := by
            unfold one; rw [if_pos hok, if_neg (by simp)]; simp only [hpl]; rw [if_neg (by simp [h1])]
          rw [e0]
          exact one_gone_seen w0 w X gm nm cm gh ch vs s hs tx a len cap ops hK hSo hks hok hls hpl (decide_eq_true h1)
        · have e0 : one s (3, tx, ops) = some (s.1, s.2.1, s.2.2 ++ [tx]) := by
            unfold one; rw [if_pos hok, if_neg (by simp)]; simp only [hpl]; rw [if_pos (by simp [h1])]
          rw [e0]
          exact one_gone w0 w X gm nm cm gh ch vs s hs tx a len cap ops hK hSo hks hok hls hpl (decide_eq_false h1)
      | some k =>
        have e0 : one s (3, tx, ops) = some (s.1, s.2.1.take k ++ s.2.1.drop (k + 1), s.2.2) := by
          unfold one; rw [if_pos hok, if_neg (by simp)]; simp only [hpl]; unfold nextM; rw [if_neg (by decide : ¬ (3 : Int) = 2), if_pos hfew]
        rw [e0]
        exact one_end w0 w X gm nm cm gh ch vs s hs tx a len cap ops hK hSo hks hok k hlh hpl hfew
/-- what holds of the specification's state from record to record -/
structure Tame (k : Nat) (s : St) : Prop where
  few : s.1.length ≤ 60
  held : s.2.1.length ≤ k
  seen : s.2.2.length ≤ k
  ok : ∀ r ∈ s.2.1, recOk r = true
theorem tame_start : Tame 0 ([], [], []) := ⟨Nat.zero_le _, Nat.le_refl _, Nat.le_refl _, fun _ h => absurd h List.not_mem_nil⟩
theorem Tame.eight {k : Nat} {s : St} (h : Tame k s) : ∀ j, j < s.2.1.length → (opsAt s.2.1 j).length ≤ 8 := by
  intro j hj
  rw [opsAt_eq hj]
  rcases ((recOk_iff _).1 (h.ok _ (List.getElem_mem hj))).2 with ⟨_, h2⟩ | ⟨_, h2⟩
  · exact ((opsOk_iff _).1 h2).2.2
  · rw [h2]; simp
theorem Tame.step {k : Nat} {s t : St} {r : Rc} (h : Tame k s) (ho : one s r = some t) : Tame (k + 1) t := by
  unfold one at ho
  split at ho
  · next hok =>
    split at ho
    · split at ho
      · cases ho
      · cases ho
        refine ⟨h.few, by have := h.held; simp; omega, by have := h.seen; simp; omega, fun x hx => ?_⟩
        rcases List.mem_append.1 hx with h1 | h1
        · exact h.ok x h1
        · rw [List.mem_singleton.1 h1]; exact hok
    · split at ho
      · split at ho
        · cases ho
          exact ⟨h.few, by have := h.held; simp; omega, by have := h.seen; simp; omega, h.ok⟩
        · cases ho
      · split at ho
        · next h60 =>
          cases ho
          refine ⟨h60, by have := h.held; simp; omega, by have := h.seen; simp; omega, fun x hx => ?_⟩
          rcases List.mem_append.1 hx with h1 | h1
          · exact h.ok x (List.mem_of_mem_take h1)
          · exact h.ok x (List.mem_of_mem_drop h1)
        · cases ho
  · cases ho
end Go.Proofs.Ytooiinicnkhlbaa.recs

namespace Go.Proofs.Ytooiinicnkhlbaa.recs
open Go Go.RowKit Go.Proofs.Ytooiinicnkhlbaa.base Go.Proofs.Ytooiinicnkhlbaa.pairs Go.Proofs.Ytooiinicnkhlbaa.ords
set_option linter.unusedVariables false
set_option linter.unusedSimpArgs false

theorem kept_start (w : World) : Kept w (((w.alloc (.cells #[] 70)).alloc (.cells #[] 32)).alloc (.cells #[.slice (some ⟨w.heap.size, 0, none⟩) 0 0, .slice (some ⟨w.heap.size + 1, 0, none⟩) 0 0, .slice none 0 0] 66))
    (w.heap.size + 1 + 1) w.heap.size 0 0 (w.heap.size + 1) 0 (.slice none 0 0) ([], [], []) [] := by
  obtain ⟨wa, hwa⟩ : ∃ wa, wa = w.alloc (.cells #[] 70) := ⟨_, rfl⟩
  have ba : Below w.heap.size w wa := by rw [hwa]; exact (Below.refl _ _).alloc (Nat.le_refl _) _
  have oa : OwnP wa w.heap.size w.heap.size 0 0 [] := by rw [hwa]; exact ownP_made w _ (Nat.le_refl _)
  have sa : wa.heap.size = w.heap.size + 1 := by rw [hwa]; simp
  rw [← hwa]
  clear hwa
  obtain ⟨wb, hwb⟩ : ∃ wb, wb = wa.alloc (.cells #[] 32) := ⟨_, rfl⟩
  have bb : Below wa.heap.size wa wb := by rw [hwb]; exact (Below.refl _ _).alloc (Nat.le_refl _) _
  have ob : OwnR wb w.heap.size (.slice (some ⟨w.heap.size + 1, 0, none⟩) 0 0) [] [] := by
    have := ownR_made wa w.heap.size ba.size
    rw [sa] at this
    rw [hwb]; exact this
  have sb : wb.heap.size = w.heap.size + 1 + 1 := by rw [hwb]; simp [sa]
  rw [← hwb]
  clear hwb
  have bd := (Below.refl _ wb).alloc (Nat.le_refl _) (.cells #[.slice (some ⟨w.heap.size, 0, none⟩) 0 0, .slice (some ⟨w.heap.size + 1, 0, none⟩) 0 0, .slice none 0 0] 66)
  have xd := heap_alloc_new wb (.cells #[.slice (some ⟨w.heap.size, 0, none⟩) 0 0, .slice (some ⟨w.heap.size + 1, 0, none⟩) 0 0, .slice none 0 0] 66)
  rw [sb] at xd
  have B1 := ba.trans (bb.mono ba.size)
  exact ⟨xd, (oa.below bb).below bd, ob.below bd, ownQ_nil _ _, B1.trans (bd.mono B1.size), by omega⟩
theorem keptBlk {w0 w : World} {X gm nm cm gh ch : Nat} {vs : Value} {s : St} {hs : List Value} (h : Kept w0 w X gm nm cm gh ch vs s hs) : ¬ BlkR (.slice (some ⟨gh, 0, none⟩) s.2.1.length ch) hs gm := by
  rintro (e | ⟨y, hy, e⟩)
  · exact recRow_ne h.held.row h.m.2.2 e rfl (by decide)
  · obtain ⟨i, hi, rfl⟩ := List.getElem_of_mem hy
    exact recRow_ne (h.held.ops i (by have := h.held.len; omega)).2 h.m.2.2 e rfl (by decide)

set_option maxRecDepth 100000 in
set_option maxHeartbeats 2000000 in
theorem spec_replay (a : Option Addr) (len cap : Nat) (l : List Rc) (w : World) (h : SlR w a len l) (hsz : len ≤ 1099511627776 / 16) (hops : ∀ r ∈ l, r.2.2.length ≤ 1099511627776 ∧ ∀ p ∈ r.2.2, p.2.1.size ≤ 1099511627776) :
    Calls Try.prog 9 #[.slice a len cap] w fun e w' => RepPost w (replay l) e w' := by
  obtain ⟨hl, hm, hsm, hc⟩ := id h
  subst hl
  unfold maxLen at hm
  generalize hR : replay l = R
  have HR0 : Hid (R = replayGo ([], [], []) (l.drop 0)) := by show _ = _; rw [← hR]; rfl
  clear hR
  go_enter Try.func9, Try.ntmps9
  go_wp2_with (at_builtin; fail)
  go_loopw [6] (fun i wr => ∃ (k gm nm cm gh ch : Nat) (vs : Value) (hs : List Value) (s : St), k ≤ l.length ∧ i = .int .i64 (k : Int) ∧ Kept w wr (w.heap.size + 1 + 1) gm nm cm gh ch vs s hs ∧ Tame k s ∧ Hid (R = replayGo s (l.drop k))) (fun i _ => l.length - (intOf i).toNat)
  case atStart => exact ⟨0, _, 0, 0, _, 0, _, [], ([], [], []), Nat.zero_le _, rfl, kept_start w, tame_start, HR0⟩
  case round =>
    clear HR0
    obtain ⟨k, gm, nm, cm, gh, ch, vs, hs, s, hk, rfl, hK, hT, HR⟩ := hrel
    by_cases hlt : k < l.length
    · obtain ⟨b, off, ha, _⟩ := hc (by omega)
      subst ha
      have hat := h.at k hlt
      obtain ⟨c0', c1', pa, pl, pc, c2', hSo, _⟩ := hat
      have hbw := World.block_lt_of_cell? w _ c0'
      have c0 := (hK.bel.cell (p := ⟨b, off + k * 3, none⟩) hbw).trans c0'
      have c1 := (hK.bel.cell (p := ⟨b, off + k * 3 + 1, none⟩) hbw).trans c1'
      have c2 := (hK.bel.cell (p := ⟨b, off + k * 3 + 2, none⟩) hbw).trans c2'
      have hki : (k : Int) < (l.length : Int) := by omega
      obtain ⟨hol, hks⟩ := hops _ (List.getElem_mem hlt)
      have hsr := hsm _ (List.getElem_mem hlt)
      have HD : Hid (R = match one s l[k] with | none => none | some t => replayGo t (l.drop (k + 1))) := by
        show _ = _
        rw [HR.out, List.drop_eq_getElem_cons hlt]; rfl
      generalize l[k] = r at *
      clear c0' c1' c2' hbw HR
      have hth := hT.held
      have hts := hT.seen
      have hpe := hSo.1
      have HF := Hid.mk' (spec_one w wr (w.heap.size + 1 + 1) gm nm cm gh ch vs s hs r.1 r.2.1 pa pl pc r.2.2 hK (hSo.below hK.bel) hks hsr (by omega) (by omega) (by omega) hT.few hT.eight)
      have HST : Hid (∀ t, one s r = some t → Tame (k + 1) t) := fun t ho => hT.step ho
      cases ho : one s r with
      | none =>
        have HRN : Hid (R = none) := by show _ = _; rw [HD.out, ho]
        rw [show ((r.1, r.2.1, r.2.2) : Rc) = r from rfl, ho] at HF
        clear HD ho HST
        go_wp2_with (at_builtin; fail)
        refine HF.out.mono ?_
        rintro e w2 ⟨rfl, hB2⟩
        have HP := Hid.mk' (repPost_none HRN.out hB2)
        clear HF c0 c1 c2
        go_wp2_with (at_builtin; fail)
        go_ret3
        exact HP.out
      | some t =>
        have HRN : Hid (R = replayGo t (l.drop (k + 1))) := by show _ = _; rw [HD.out, ho]
        have hT' := HST.out t ho
        rw [show ((r.1, r.2.1, r.2.2) : Rc) = r from rfl, ho] at HF
        clear HD ho HST
        go_wp2_with (at_builtin; fail)
        refine HF.out.mono ?_
        rintro e w2 ⟨rfl, gm2, nm2, cm2, gh2, ch2, vs2, hs2, hK2⟩
        clear HF c0 c1 c2
        go_wp2_with (at_builtin; fail)
        go_roundw
        case rel => exact ⟨k + 1, gm2, nm2, cm2, gh2, ch2, vs2, hs2, t, by omega, by go_num, hK2, hT', HRN⟩
        case measure => simp [intOf]; omega
    · have HRN : Hid (R = some s) := by
        show _ = _
        rw [HR.out, List.drop_eq_nil_of_le (by omega)]; rfl
      have hXl := hK.box.lt
      have o0 := last.On.cell (B := wr.heap.size) hK.box.cells.1 hXl
      have o1 := last.On.cell (B := wr.heap.size) hK.box.cells.2.1 hXl
      have hinh := last.On.inh wr.heap.size wr
      go_wp2_with (at_builtin; fail)
      refine last.wp_region_on wr.heap.size (by kernel_rfl) (by kernel_rfl) ?_
      repeat (go_big_quiet_step (fail))
      refine wpQuiet_nil ?_
      intro w5 hw5
      obtain ⟨x5, hw5⟩ := hw5
      have hb5 : Below wr.heap.size wr w5 := by rw [hw5]; exact x5.2
      have hK5 := hK.below hb5
      have HP : Hid (RepPost w R (.returned (.tuple #[.slice (some ⟨gm, 0, none⟩) nm cm, .slice (some ⟨gh, 0, none⟩) s.2.1.length ch, .bool true])) w5) := by
        rw [HRN.out]
        exact ⟨gm, nm, cm, gh, ch, hs, rfl, hK5.m, hK5.held, keptBlk hK5, hK5.bel⟩
      clear hw5 x5 hinh o0 o1
      go_wp2_with (at_builtin; fail)
      go_ret3
      exact HP.out
end Go.Proofs.Ytooiinicnkhlbaa.recs

namespace Go.Proofs.Ytooiinicnkhlbaa.recs
open Go Go.RowKit Go.Proofs.Ytooiinicnkhlbaa.base Go.Proofs.Ytooiinicnkhlbaa.pairs Go.Proofs.Ytooiinicnkhlbaa.ords
set_option linter.unusedVariables false

theorem replayGo_tame : ∀ (l : List Rc) (k : Nat) (s t : St), Tame k s → replayGo s l = some t → Tame (k + l.length) t
  | [], k, s, t, h, e => by cases e; exact h
  | r :: l, k, s, t, h, e => by
    rw [replayGo] at e
    split at e
    · cases e
    · next u hu =>
      have := replayGo_tame l (k + 1) u t (h.step hu) e
      rw [List.length_cons, Nat.add_comm l.length 1, ← Nat.add_assoc]
      exact this
theorem cntR_le8 (l : List Rc) (h : ∀ r ∈ l, recOk r = true) : cntR l ≤ 26 * l.length := by
  induction l with
  | nil => simp [cntR]
  | cons x l ih =>
    rw [cntR_cons, List.length_cons]
    have h1 := ih fun r hr => h r (List.mem_cons_of_mem _ hr)
    have h2 : x.2.2.length ≤ 8 := by
      rcases ((recOk_iff x).1 (h x List.mem_cons_self)).2 with ⟨_, h2⟩ | ⟨_, h2⟩
      · exact ((opsOk_iff _).1 h2).2.2
      · rw [h2]; simp
    omega
theorem replay_sizes (l : List Rc) : (resM (replay l)).length ≤ 60 ∧ (resH (replay l)).length ≤ l.length ∧ cntR (resH (replay l)) ≤ 26 * l.length := by
  cases hr : replay l with
  | none => simp [resM, resH, cntR]
  | some s =>
    have h := replayGo_tame l 0 _ s tame_start hr
    have h2 := cntR_le8 s.2.1 h.ok
    have h3 := h.held
    simp only [resM, resH]
    exact ⟨h.few, by omega, by omega⟩
theorem repPost_open {w w' : World} {r : Option St} {e : Ending} {P : List Pr} {L : List Rc} {bb : Bool} {n m : Nat} (hP : resM r = P) (hL : resH r = L) (hb : r.isSome = bb) (hn : P.length = n) (hm : L.length = m) (h : RepPost w r e w') :
    ∃ g cp g2 c2 hs, e = .returned (.tuple #[.slice (some ⟨g, 0, none⟩) n cp, .slice (some ⟨g2, 0, none⟩) m c2, .bool bb]) ∧ OwnP w' w.heap.size g n cp P ∧ OwnR w' w.heap.size (.slice (some ⟨g2, 0, none⟩) m c2) L hs ∧ ¬ BlkR (.slice (some ⟨g2, 0, none⟩) m c2) hs g ∧ Below w.heap.size w w' := by
  obtain ⟨g, np, cp, g2, c2, hs, rfl, h1, h2, h3, h4⟩ := h
  subst hP hL hb hm
  have e1 : np = n := by have := h1.1; omega
  subst e1
  exact ⟨g, cp, g2, c2, hs, rfl, h1, h2, h3, h4⟩
theorem OwnR.plain {w : World} {base g n cap : Nat} {l : List Rc} {hs : List Value} (h : OwnR w base (.slice (some ⟨g, 0, none⟩) n cap) l hs) : PlainR w (some ⟨g, 0, none⟩) n := by
  intro b off e i hi pa pl pc hc
  obtain rfl := h.nlen
  simp only [Option.some.injEq, Addr.mk.injEq, and_true] at e
  obtain ⟨rfl, rfl⟩ := e
  have h1 := (h.at i hi).2.2
  rw [Nat.zero_add] at hc
  rw [hc] at h1
  have h2 := (h.ops i hi).shape
  rw [← Option.some.inj h1] at h2
  rcases h2 with ⟨h2, _⟩ | ⟨g2, c2, h2, _⟩
  · cases h2; exact .inl rfl
  · cases h2; exact .inr ⟨_, _, rfl⟩
structure HexR (w0 w : World) (B1 B2 gw n cw : Nat) (vs vx : Value) (gg cg : Nat) (vg : Value) (hss hsx hsg : List Value) (P : List Pr) (R X : List Rc) (G : List Pr) (H : List Rc) : Prop where
  bel : Below w0.heap.size w0 w
  wp : OwnP w w0.heap.size gw n cw P
  wr : OwnR w w0.heap.size vs R hss
  x : OwnR w w0.heap.size vx X hsx
  gp : OwnP w w0.heap.size gg n cg G
  gr : OwnR w w0.heap.size vg H hsg
  h1 : gw < B1
  h2 : ∀ k, BlkR vs hss k → k < B1
  h3 : ∀ k, BlkR vx hsx k → B1 ≤ k ∧ k < B2
  h4 : B2 ≤ gg
  h5 : ∀ k, BlkR vg hsg k → B2 ≤ k
  h6 : ¬ BlkR vg hsg gg
  h7 : B1 ≤ B2
section
variable {w0 w w' : World} {B1 B2 gw n cw gg cg : Nat} {vs vx vg : Value} {hss hsx hsg : List Value} {P G : List Pr} {R X H : List Rc}
theorem HexR.below (h : HexR w0 w B1 B2 gw n cw vs vx gg cg vg hss hsx hsg P R X G H) (hb : Below w.heap.size w w') : HexR w0 w' B1 B2 gw n cw vs vx gg cg vg hss hsx hsg P R X G H :=
  ⟨h.bel.trans (hb.mono h.bel.size), h.wp.below hb, h.wr.below hb, h.x.below hb, h.gp.below hb, h.gr.below hb, h.h1, h.h2, h.h3, h.h4, h.h5, h.h6, h.h7⟩
theorem ownP_of_block {base g n c : Nat} {l : List Pr} (h : OwnP w base g n c l) (hk : w'.heap[g]? = w.heap[g]?) : OwnP w' base g n c l :=
  ⟨h.1, h.2.1, rowR_of_block h.2.2 (fun k e => by cases e; exact hk)⟩
theorem HexR.markX (h : HexR w0 w B1 B2 gw n cw vs vx gg cg vg hss hsx hsg P R X G H) {X' : List Rc} (ho : OwnR w' w0.heap.size vx X' hsx) (hk : KeepR vx hsx w w') : HexR w0 w' B1 B2 gw n cw vs vx gg cg vg hss hsx hsg P R X' G H := by
  have h1 := h.h1
  have h4 := h.h4
  have h7 := h.h7
  refine ⟨h.bel.trans (hk.bel h.bel.size (fun k e => (h.x.lt k e).1)), ownP_of_block h.wp (hk.block _ h.wp.lt.2 (fun e => by have := h.h3 _ e; omega)), h.wr.of_blocks (fun k e => hk.block k (h.wr.lt k e).2 (fun e2 => by have := h.h3 _ e2; have := h.h2 _ e; omega)), ho, ownP_of_block h.gp (hk.block _ h.gp.lt.2 (fun e => by have := h.h3 _ e; omega)), h.gr.of_blocks (fun k e => hk.block k (h.gr.lt k e).2 (fun e2 => by have := h.h3 _ e2; have := h.h5 _ e; omega)), h.h1, h.h2, h.h3, h.h4, h.h5, h.h6, h.h7⟩
theorem HexR.markP (h : HexR w0 w B1 B2 gw n cw vs vx gg cg vg hss hsx hsg P R X G H) {G' : List Pr} (ho : OwnP w' w0.heap.size gg n cg G') (hg : w.grownBy w' (some gg)) : HexR w0 w' B1 B2 gw n cw vs vx gg cg vg hss hsx hsg P R X G' H := by
  have h1 := h.h1
  have h4 := h.h4
  have h7 := h.h7
  refine ⟨h.bel.grown hg h.bel.size (fun k e => by cases e; exact h.gp.lt.1), h.wp.grown hg (fun e => by cases e; omega), h.wr.grown hg (fun e => by have := h.h2 _ e; omega), h.x.grown hg (fun e => by have := h.h3 _ e; omega), ho, h.gr.grown hg h.h6, h.h1, h.h2, h.h3, h.h4, h.h5, h.h6, h.h7⟩
theorem HexR.markG (h : HexR w0 w B1 B2 gw n cw vs vx gg cg vg hss hsx hsg P R X G H) {H' : List Rc} (ho : OwnR w' w0.heap.size vg H' hsg) (hk : KeepR vg hsg w w') : HexR w0 w' B1 B2 gw n cw vs vx gg cg vg hss hsx hsg P R X G H' := by
  have h1 := h.h1
  have h4 := h.h4
  have h7 := h.h7
  refine ⟨h.bel.trans (hk.bel h.bel.size (fun k e => (h.gr.lt k e).1)), ownP_of_block h.wp (hk.block _ h.wp.lt.2 (fun e => by have := h.h5 _ e; omega)), h.wr.of_blocks (fun k e => hk.block k (h.wr.lt k e).2 (fun e2 => by have := h.h5 _ e2; have := h.h2 _ e; omega)), h.x.of_blocks (fun k e => hk.block k (h.x.lt k e).2 (fun e2 => by have := h.h5 _ e2; have := h.h3 _ e; omega)), ownP_of_block h.gp (hk.block _ h.gp.lt.2 h.h6), ho, h.h1, h.h2, h.h3, h.h4, h.h5, h.h6, h.h7⟩
end
end Go.Proofs.Ytooiinicnkhlbaa.recs

namespace Go.Proofs.Ytooiinicnkhlbaa.recs
open Go Go.RowKit Go.Proofs.Ytooiinicnkhlbaa.base Go.Proofs.Ytooiinicnkhlbaa.pairs Go.Proofs.Ytooiinicnkhlbaa.ords
set_option linter.unusedVariables false
set_option linter.unusedSimpArgs false

theorem slr_open {W : World} {ad : Addr} {len cap : Nat} (hl : len ≤ cap) (hm : cap ≤ maxLen) (q : Nat → Rc) (hs : ∀ i, i < len → smallR (q i)) (hc : ∀ i, i < len → W.cell? (ad.add (i * 3)) = some (.int .i64 (q i).1) ∧ W.cell? (ad.add (i * 3 + 1)) = some (.int .i64 (q i).2.1) ∧ ∃ pa pl pc, W.cell? (ad.add (i * 3 + 2)) = some (.slice pa pl pc) ∧ SlO W pa pl (q i).2.2 ∧ pl ≤ pc) : ∃ l, SlR W (some ad) len l := by
  obtain ⟨b, off, spot⟩ := ad
  refine ⟨(List.range len).map q, by simp, by omega, ?_, fun h0 => ?_⟩
  · intro x hx
    obtain ⟨i, hi, rfl⟩ := List.mem_map.1 hx
    exact hs i (List.mem_range.1 hi)
  · have hspot : spot = none := by simpa [Addr.add] using World.cell?_spot (hc 0 h0).1
    subst hspot
    refine ⟨b, off, rfl, fun i hi => ?_⟩
    have hi' : i < len := by simpa using hi
    have h1 := hc i hi'
    rw [Addr.add_lit, Addr.add_lit, Addr.add_lit] at h1
    simp only [List.getElem_map, List.getElem_range]
    rw [← Nat.add_assoc, ← Nat.add_assoc] at h1
    exact h1
set_option maxRecDepth 100000 in
theorem slr_arg {H : Type} {enc : TypeId × Value → H} {W : World} {a : Option Addr} {len cap fuel : Nat} {x : DataW H × List MemPlace} (t e : TypeId) (f0 f1 f2 : Field) (ht : Try.prog.underlying t = some (.slice e)) (he : Try.prog.underlying e = some (.struct #[f0, f1, f2]))
    (ce : Try.prog.cellsOf e = 3) (o0 : f0.offset = 0) (o1 : f1.offset = 1) (o2 : f2.offset = 2) (t0 : f0.type = 3) (t1 : f1.type = 3) (t2 : f2.type = 34) (c3 : Try.prog.cellsOf 3 = 1) (cs1 : Try.prog.cellsOf 34 = 1)
    (g0 g1 g2 : Field) (hI : Try.prog.underlying 102 = some (.struct #[g0, g1, g2])) (cI : Try.prog.cellsOf 102 = 3) (i0 : g0.offset = 0) (i1 : g1.offset = 1) (i2 : g2.offset = 2) (u0 : g0.type = 3) (u1 : g1.type = 9) (u2 : g2.type = 9) (c9 : Try.prog.cellsOf 9 = 1)
    (h : DataW.trod enc Try.prog W 0 (fun _ => true) true fuel t (Value.cells (.slice a len cap)).toList = some x) : ∃ l, SlR W a len l := by
  rcases Deep.open_slice ht h with ⟨hcs, _⟩ | ⟨ad, len', cap', m, n, D, Pl, hcs, hb, hl, hm, hmm, _, hx⟩
  · simp [Value.cells] at hcs
    obtain ⟨rfl, rfl, rfl⟩ := hcs
    exact ⟨[], slr_nil _ _⟩
  · simp [Value.cells] at hcs
    obtain ⟨rfl, rfl, rfl⟩ := hcs
    simp at hmm
    have each : ∀ i, i < len → ∃ y : Rc, smallR y ∧ W.cell? (ad.add (i * 3)) = some (.int .i64 y.1) ∧ W.cell? (ad.add (i * 3 + 1)) = some (.int .i64 y.2.1) ∧ ∃ pa pl pc, W.cell? (ad.add (i * 3 + 2)) = some (.slice pa pl pc) ∧ SlO W pa pl y.2.2 ∧ pl ≤ pc := by
      intro i hi
      obtain ⟨cs', h1, h2⟩ := hx i (by omega)
      rw [ce] at h1
      obtain ⟨_, hlen, hcell⟩ := World.cells?_some h1
      obtain ⟨xs, k, hk, _, _, hxl, hf⟩ := DataW.trod_struct he h2
      match xs, hxl, cs', hlen with
      | [y0, y1, y2], _, [v0, v1, v2], _ =>
        have k0 := hf 0 f0 rfl
        have k1 := hf 1 f1 rfl
        have k2 := hf 2 f2 rfl
        rw [t0] at k0
        rw [t1] at k1
        rw [t2] at k2
        simp [o0, o1, o2, c3, cs1] at k0 k1 k2
        obtain ⟨n0, e0, _, w0⟩ := DataW.trod_int Try.underlying3 k0
        obtain ⟨n1, e1, _, w1⟩ := DataW.trod_int Try.underlying3 k1
        simp at e0 e1
        subst e0 e1
        obtain ⟨pa, pl, pc, ops, rfl, hS, hpc⟩ := slo_arg2 g0 g1 g2 hI cI i0 i1 i2 u0 u1 u2 c3 c9 k2
        have d0 := hcell 0 (by omega)
        have d1 := hcell 1 (by omega)
        have d2 := hcell 2 (by omega)
        rw [Deep.add_add] at d0 d1 d2
        exact ⟨(n0, n1, ops), ⟨w0, w1, hS.2.2.1⟩, by simpa using d0, by simpa using d1, pa, pl, pc, by simpa using d2, hS, hpc⟩
    obtain ⟨q, hq⟩ := Deep.choose_lt each
    exact slr_open hl hm q (fun i hi => (hq i hi).1) (fun i hi => (hq i hi).2)
end Go.Proofs.Ytooiinicnkhlbaa.recs
