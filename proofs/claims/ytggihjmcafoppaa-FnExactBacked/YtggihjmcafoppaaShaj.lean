/- The laws' own harness at slices of records: made anew, and counted. What the exact law of ReplayRecs keeps from step to step: the records that were handed in, the answer's pairs and records and the specification's. The specification's shard: whether it is right. The specification's copy of records. The specification's shard: a copy of it. The laws' own functions on shards: sizes, copies, marks. The laws' helpers for rows of words: alike. -/
import Derived.Test.YtggihjmcafoppaaShai
import Derived.Test.YtggihjmcafoppaaShad
import Derived.Test.YtggihjmcafoppaaShag
import Derived.Test.YtggihjmcafoppaaShaf
import Derived.Test.YtggihjmcafoppaaShae
namespace Go.Proofs.Ytggihjmcafoppaa.recs
open Go Go.RowKit Go.Proofs.Ytggihjmcafoppaa.base Go.Proofs.Ytggihjmcafoppaa.pairs Go.Proofs.Ytggihjmcafoppaa.ords
set_option linter.unusedVariables false
set_option linter.unusedSimpArgs false

theorem recVals_put (l : List Rc) (hs : List Value) (h : hs.length = l.length) (i : Nat) (hi : i < l.length) (x : Rc) (y : Value) : (((recVals l hs).set (i * 3) (.int .i64 x.1)).set (i * 3 + 1) (.int .i64 x.2.1)).set (i * 3 + 2) y = recVals (l.set i x) (hs.set i y) := by
  induction l generalizing hs i with
  | nil => simp at hi
  | cons r l ih =>
    cases hs with
    | nil => simp at h
    | cons u hs =>
      cases i with
      | zero => rfl
      | succ i =>
        rw [recVals_cons, show (i + 1) * 3 = i * 3 + 1 + 1 + 1 by omega, show i * 3 + 1 + 1 + 1 + 1 = (i * 3 + 1) + 1 + 1 + 1 by omega, show i * 3 + 1 + 1 + 1 + 2 = (i * 3 + 2) + 1 + 1 + 1 by omega]
        simp only [List.set_cons_succ, recVals_cons]
        rw [ih hs (by simpa using h) i (by simpa using hi)]
theorem OwnR.put {w : World} {base g n cap : Nat} {l : List Rc} {hs : List Value} (h : OwnR w base (.slice (some ⟨g, 0, none⟩) n cap) l hs) (i : Nat) (hi : i < l.length) (x : Rc) (y : Value) (hx : smallR x) (hy : OwnV w base y x.2.2) (hout : ∀ k, y.ownBlock = some k → ¬ BlkR (.slice (some ⟨g, 0, none⟩) n cap) hs k) :
    OwnR (((w.setCell ⟨g, i * 3, none⟩ (.int .i64 x.1)).setCell ⟨g, i * 3 + 1, none⟩ (.int .i64 x.2.1)).setCell ⟨g, i * 3 + 2, none⟩ y) base (.slice (some ⟨g, 0, none⟩) n cap) (l.set i x) (hs.set i y) ∧
      w.grownBy (((w.setCell ⟨g, i * 3, none⟩ (.int .i64 x.1)).setCell ⟨g, i * 3 + 1, none⟩ (.int .i64 x.2.1)).setCell ⟨g, i * 3 + 2, none⟩ y) (some g) := by
  obtain rfl := h.nlen
  have hlen := h.len
  have s0 := h.row.stored (i * 3) (.int .i64 x.1)
  have s1 := s0.1.stored (i * 3 + 1) (.int .i64 x.2.1)
  have s2 := s1.1.stored (i * 3 + 2) y
  rw [recVals_put l hs h.len i hi x y] at s2
  have hg := grownBy_trans (grownBy_trans s0.2 s1.2) s2.2
  have hyg : y.ownBlock ≠ some g := fun e => hout g e (.inl rfl)
  refine ⟨⟨by simpa using h.len, mem_set_smallR h.sm hx, by simpa using s2.1, fun j hj => ?_, ?_, ?_⟩, hg⟩
  · have hjl : j < l.length := by simpa using hj
    by_cases e : i = j
    · subst e
      rw [List.getElem_set_self, List.getElem_set_self]
      exact hy.grown hg (.inr hyg)
    · rw [List.getElem_set_ne e, List.getElem_set_ne e]
      exact (h.ops j hjl).grown hg (.inr (h.out g rfl _ (List.getElem_mem _)))
  · rw [List.pairwise_iff_getElem]
    intro a b ha hb hab
    have ha' : a < hs.length := by simpa using ha
    have hb' : b < hs.length := by simpa using hb
    have hp := List.pairwise_iff_getElem.1 h.apart a b ha' hb' hab
    by_cases ea : i = a
    · subst ea
      rw [List.getElem_set_self, List.getElem_set_ne (by omega)]
      cases e : y.ownBlock with
      | none => exact .inl rfl
      | some k => exact .inr (fun e2 => hout k e (.inr ⟨hs[b], List.getElem_mem _, e2.symm⟩))
    · rw [List.getElem_set_ne ea]
      by_cases eb : i = b
      · subst eb
        rw [List.getElem_set_self]
        cases e : hs[a].ownBlock with
        | none => exact .inl rfl
        | some k => exact .inr (fun e2 => hout k e2.symm (.inr ⟨hs[a], List.getElem_mem _, e⟩))
      · rw [List.getElem_set_ne eb]; exact hp
  · intro k hk z hz
    rcases List.mem_or_eq_of_mem_set hz with h1 | h1
    · exact h.out k hk z h1
    · subst h1
      have : k = g := by simpa [Value.ownBlock] using hk.symm
      rw [this]; exact hyg
def copyR (l : List Rc) (k : Nat) : List Rc := l.take k ++ List.replicate (l.length - k) (0, 0, [])
theorem copyR_length (l : List Rc) (k : Nat) (h : k ≤ l.length) : (copyR l k).length = l.length := by simp [copyR]; omega
theorem copyR_set (l : List Rc) (k : Nat) (h : k < l.length) : (copyR l k).set k l[k] = copyR l (k + 1) := by
  unfold copyR
  rw [List.take_succ_eq_append_getElem h]
  have e1 : (l.take k).length = k := by simp; omega
  have e2 : l.length - k = (l.length - (k + 1)) + 1 := by omega
  rw [List.set_append_right _ _ (by omega), e1, Nat.sub_self, e2, List.replicate_succ, List.set_cons_zero, List.append_assoc]
  rfl
theorem copyR_all (l : List Rc) : copyR l l.length = l := by simp [copyR]
theorem recVals_rep (n : Nat) : recVals (List.replicate n (0, 0, [])) (List.replicate n (.slice none 0 0)) = (madeCells (Value.agg #[.int .i64 0, .int .i64 0, .slice none 0 0]).cells (n * 3)).toList := by
  apply List.ext_getElem?
  intro j
  by_cases hj : j < n * 3
  · have hd : j / 3 < n := by omega
    have hc := recVals_get (List.replicate n ((0, 0, []) : Rc)) (List.replicate n (.slice none 0 0)) (by simp) (j / 3) (by simpa using hd)
    have hmod : j % 3 = 0 ∨ j % 3 = 1 ∨ j % 3 = 2 := by omega
    rcases hmod with h3 | h3 | h3
    · have e : j = j / 3 * 3 := by omega
      conv => lhs; rw [e, hc.1]
      simp [madeCells, h3, hj, Value.cells]
    · have e : j = j / 3 * 3 + 1 := by omega
      conv => lhs; rw [e, hc.2.1]
      simp [madeCells, h3, hj, Value.cells]
    · have e : j = j / 3 * 3 + 2 := by omega
      conv => lhs; rw [e, hc.2.2]
      simp [madeCells, h3, hj, Value.cells]
  · rw [List.getElem?_eq_none (by rw [recVals_length _ _ (by simp)]; simp; omega), List.getElem?_eq_none (by simp [madeCells]; omega)]
theorem infoRH : (Try.prog.info? 69).map (fun i => (i.zero, i.size, i.bytes)) = some (some (.agg #[.int .i64 0, .int .i64 0, .slice none 0 0]), 3, 40) := by kernel_rfl
theorem copyR_small {l : List Rc} (k : Nat) (h : ∀ x ∈ l, smallR x) : ∀ x ∈ copyR l k, smallR x := by
  intro x hx
  rcases List.mem_append.1 hx with h1 | h1
  · exact h x (List.mem_of_mem_take h1)
  · obtain rfl := (List.mem_replicate.1 h1).2
    exact ⟨rfl, rfl, fun o ho => absurd ho List.not_mem_nil⟩

set_option maxRecDepth 100000 in
set_option maxHeartbeats 2000000 in
theorem toRecS (a : Option Addr) (len cap : Nat) (l : List Rc) (w : World) (h : SlR w a len l) (hsz : len ≤ 1099511627776) (hops : ∀ r ∈ l, r.2.2.length ≤ 1099511627776) :
    Calls Try.prog 104 #[.slice a len cap] w fun e w' => ∃ g hs, e = .returned (.slice (some ⟨g, 0, none⟩) len len) ∧ OwnR w' w.heap.size (.slice (some ⟨g, 0, none⟩) len len) l hs ∧ Below w.heap.size w w' := by
  obtain ⟨hl, hm, hsm, hc⟩ := id h
  subst hl
  have hm' := hm
  unfold maxLen at hm'
  obtain ⟨i0, hif, hz0, hz1, hz2⟩ := info_parts infoRH
  go_enter Try.func104, Try.ntmps104
  go_wp2_with (at_make; refine wpList_make_full _ rfl _ _ 50 rfl w.heap.size 69 i0 (.agg #[.int .i64 0, .int .i64 0, .slice none 0 0]) 3 Try.underlying50 hif hz0 hz1 _ _ _ _ l.length rfl rfl rfl rfl ?b2 ?b3 ?b4 ?_)
  case b2 => rw [hz2]; omega
  case b3 => exact hm
  case b4 => exact Nat.le_refl _
  intro w1 hown hgrow
  have hOwn : OwnR w1 w.heap.size (.slice (some ⟨w.heap.size, 0, none⟩) l.length l.length) (copyR l 0) (List.replicate l.length (.slice none 0 0)) := by
    have e0 : copyR l 0 = List.replicate l.length (0, 0, []) := by simp [copyR]
    refine ⟨by rw [e0]; simp, copyR_small 0 hsm, ?_, fun i hi => ?_, ?_, ?_⟩
    · rw [e0, recVals_rep, List.length_replicate]; exact hown
    · have hi' : i < l.length := by rw [e0] at hi; simpa using hi
      simp only [e0, List.getElem_replicate]
      exact ownV_nil _ _
    · rw [List.pairwise_iff_getElem]
      intro x y hx hy hxy
      left
      rw [List.getElem_replicate]; rfl
    · intro k hk y hy
      obtain rfl := (List.mem_replicate.1 hy).2
      simp [Value.ownBlock]
  have hbel : Below w.heap.size w w1 := (Below.refl _ _).grown hgrow (Nat.le_refl _) (fun k e => by cases e)
  clear hown hgrow hif hz0 hz1 hz2
  go_wp2_with fail
  go_loopw [4] (fun i wr => ∃ (k : Nat) (hs : List Value), k ≤ l.length ∧ i = .int .i64 k ∧ OwnR wr w.heap.size (.slice (some ⟨w.heap.size, 0, none⟩) l.length l.length) (copyR l k) hs ∧ Below w.heap.size w wr) (fun i _ => l.length - (intOf i).toNat)
  case atStart => exact ⟨0, _, Nat.zero_le _, rfl, hOwn, hbel⟩
  case round =>
    clear hOwn hbel
    obtain ⟨k, hs, hk, rfl, hO, hB⟩ := hrel
    by_cases hlt : k < l.length
    · obtain ⟨b, off, ha, _⟩ := hc (by omega)
      subst ha
      obtain ⟨c0, c1, pa, pl, pc, c2, hSo, _⟩ := (h.at k hlt).below hB
      have hpk := hsm _ (List.getElem_mem hlt)
      have hki : (k : Int) < (l.length : Int) := by omega
      have HS := Hid.mk' (copyR_set l k hlt)
      have hol := hops _ (List.getElem_mem hlt)
      have hpl := hSo.1
      generalize l[k] = p at *
      clear hc
      go_wp2_with fail
      refine (toRec p.1 p.2.1 pa pl pc p.2.2 _ hSo (by omega)).mono ?_
      rintro e w2 ⟨g2, rfl, hO2, hb2⟩
      have hOR := hO.below hb2
      have hB2 := hB.trans (hb2.mono hB.size)
      have hkl : k < (copyR l k).length := by rw [copyR_length l k hk]; exact hlt
      have hV2 := (ownV_of hO2).mono (base' := w.heap.size) hB.size
      have hg2 := hO2.lt
      have R := hOR.put k hkl p (.slice (some ⟨g2, 0, none⟩) pl pl) hpk hV2 (fun j hj hb => by
        have e1 : g2 = j := by simpa [Value.ownBlock] using hj
        have := (hO.lt j hb).2
        omega)
      rw [HS.out] at R
      have HR := Hid.mk' R
      obtain ⟨d0, d1, d2⟩ := hOR.at k hkl
      have f0 := hOR.frozen (k * 3)
      have f1 := hOR.frozen (k * 3 + 1)
      have f2 := hOR.frozen (k * 3 + 2)
      generalize (copyR l k)[k].1 = z0 at *
      generalize (copyR l k)[k].2.1 = z1 at *
      generalize hs[k]'(by have := hO.len; omega) = z2 at *
      have hsz2 := hB2.size
      clear R hO hOR hO2 hV2 hB hb2 c0 c1 c2 hSo
      go_wp2_with fail
      go_roundw
      case rel => exact ⟨k + 1, _, by omega, by go_num, HR.out.1, hB2.trans (below_grown HR.out.2 (Nat.le_refl _) hsz2)⟩
      case measure => simp [intOf]; omega
    · have e : k = l.length := by omega
      subst e
      rw [copyR_all] at hO
      go_wp2_with fail
      go_ret
      exact ⟨_, _, rfl, hO, hB⟩
def rsz (r : Rc) : Nat := r.2.2.length + sumO r.2.2
def sumR (l : List Rc) : Nat := (l.map rsz).sum
theorem sumR_take (l : List Rc) (k : Nat) (h : k < l.length) : sumR (l.take (k + 1)) = sumR (l.take k) + rsz l[k] := by
  unfold sumR
  rw [List.take_succ_eq_append_getElem h, List.map_append, List.sum_append]; simp
theorem sumR_le (l : List Rc) (k : Nat) : sumR (l.take k) ≤ sumR l := by
  conv => rhs; rw [← List.take_append_drop k l]
  unfold sumR
  rw [List.map_append, List.sum_append]; omega
set_option maxRecDepth 100000 in
set_option maxHeartbeats 2000000 in
theorem szRecS (a : Option Addr) (len cap : Nat) (l : List Rc) (L : Nat) (w : World) (h : SlR w a len l) (hL : L ≤ 1099511627776) :
    Calls Try.prog 99 #[.slice a len cap, .int .i64 (L : Int)] w fun e w' => e = .returned (.int .i64 (pairs.szR L (l.length + sumR l))) ∧ Below w.heap.size w w' := by
  obtain ⟨hl, hm, hsm, hc⟩ := id h
  subst hl
  unfold maxLen at hm
  by_cases hneg : L < l.length
  · rw [pairs.szR_neg (by omega)]
    have h1 : (L : Int) - (l.length : Int) < 0 := by omega
    go_enter Try.func99, Try.ntmps99
    go_wp2
    go_ret
    exact ⟨rfl, Below.refl _ _⟩
  · have h1 : ¬ (L : Int) - (l.length : Int) < 0 := by omega
    go_enter Try.func99, Try.ntmps99
    go_wp2_with fail
    go_loopw [1, 5] (fun lv i wr => ∃ k m : Nat, k ≤ l.length ∧ i = .int .i64 (k : Int) ∧ lv = .int .i64 (m : Int) ∧ m + (l.length + sumR (l.take k)) = L ∧ Below w.heap.size w wr) (fun _ i _ => l.length - (intOf i).toNat)
    case atStart => exact ⟨0, L - l.length, Nat.zero_le _, rfl, by go_num, by simp [sumR]; omega, Below.refl _ _⟩
    case round =>
      obtain ⟨k, m, hk, rfl, rfl, hmL, hB⟩ := hrel
      by_cases hlt : k < l.length
      · obtain ⟨b, off, ha, _⟩ := hc (by omega)
        subst ha
        obtain ⟨c0, c1, pa, pl, pc, c2, hSo, _⟩ := (h.at k hlt).below hB
        have hst := sumR_take l k hlt
        have hle := sumR_le l (k + 1)
        have hi1 : (k : Int) < (l.length : Int) := by omega
        have hmB : m ≤ 1099511627776 := by omega
        have HML := Hid.mk' hmL
        have HST := Hid.mk' hst
        have HLE := Hid.mk' hle
        generalize l[k] = p at *
        clear hc hsm hmL hst hle
        have hcall : Calls Try.prog 116 #[.agg #[.int .i64 p.1, .int .i64 p.2.1, .slice pa pl pc], .int .i64 (m : Int)] wr fun e w' => e = .returned (.int .i64 (pairs.szR m (rsz p))) ∧ Below wr.heap.size wr w' := szRec p.1 p.2.1 pa pl pc p.2.2 m wr hSo hmB
        by_cases hover : m < rsz p
        · rw [pairs.szR_neg hover] at hcall
          have HC := Hid.mk' hcall
          clear hcall
          go_wp2_with fail
          refine HC.out.mono ?_
          rintro e w2 ⟨rfl, hB2⟩
          go_wp2_with fail
          go_ret
          have e1 := HML.out
          have e2 := HST.out
          have e3 := HLE.out
          rw [pairs.szR_neg (by omega)]
          exact ⟨rfl, hB.trans (hB2.mono hB.size)⟩
        · rw [pairs.szR_pos (by omega), show (m : Int) - (rsz p : Int) = ((m - rsz p : Nat) : Int) by omega] at hcall
          have HC := Hid.mk' hcall
          obtain ⟨m2, hm2⟩ : ∃ m2, m - rsz p = m2 := ⟨_, rfl⟩
          rw [hm2] at HC
          have HM2 := Hid.mk' hm2
          have hm2b : m2 ≤ 1099511627776 := by omega
          clear hcall hm2
          go_wp2_with fail
          refine HC.out.mono ?_
          rintro e w2 ⟨rfl, hB2⟩
          go_wp2_with fail
          go_roundw
          case rel => exact ⟨k + 1, m2, by omega, by go_num, rfl, by have e1 := HML.out; have e2 := HST.out; have e3 := HM2.out; omega, hB.trans (hB2.mono hB.size)⟩
          case measure => simp [intOf]; omega
      · have e : k = l.length := by omega
        subst e
        rw [List.take_length] at hmL
        go_wp2_with fail
        go_ret
        rw [pairs.szR_pos (by omega), show (L : Int) - ((l.length + sumR l : Nat) : Int) = (m : Int) by omega]
        exact ⟨rfl, hB⟩
end Go.Proofs.Ytggihjmcafoppaa.recs

namespace Go.Proofs.Ytggihjmcafoppaa.recs
open Go Go.RowKit Go.Proofs.Ytggihjmcafoppaa.base Go.Proofs.Ytggihjmcafoppaa.pairs Go.Proofs.Ytggihjmcafoppaa.ords
set_option linter.unusedVariables false

theorem OwnR.plain {w : World} {base g n cap : Nat} {l : List Rc} {hs : List Value} (h : OwnR w base (.slice (some ⟨g, 0, none⟩) n cap) l hs) : PlainR w (some ⟨g, 0, none⟩) n := by
  intro b off e i hi pa pl pc hc
  obtain rfl := h.nlen
  simp only [Option.some.injEq, Addr.mk.injEq, and_true] at e
  obtain ⟨rfl, rfl⟩ := e
  have h1 := (h.at i hi).2.2
  rw [Nat.zero_add] at hc
  rw [hc] at h1
  have h2 := (h.ops i hi).shape
  rw [← Option.some.inj h1] at h2
  rcases h2 with ⟨h2, _⟩ | ⟨g2, c2, h2, _⟩
  · cases h2; exact .inl rfl
  · cases h2; exact .inr ⟨_, _, rfl⟩
structure HexR (w0 w : World) (B1 B2 gw n cw : Nat) (vs vx : Value) (gg cg : Nat) (vg : Value) (hss hsx hsg : List Value) (P : List Pr) (R X : List Rc) (G : List Pr) (H : List Rc) : Prop where
  bel : Below w0.heap.size w0 w
  wp : OwnP w w0.heap.size gw n cw P
  wr : OwnR w w0.heap.size vs R hss
  x : OwnR w w0.heap.size vx X hsx
  gp : OwnP w w0.heap.size gg n cg G
  gr : OwnR w w0.heap.size vg H hsg
  h1 : gw < B1
  h2 : ∀ k, BlkR vs hss k → k < B1
  h3 : ∀ k, BlkR vx hsx k → B1 ≤ k ∧ k < B2
  h4 : B2 ≤ gg
  h5 : ∀ k, BlkR vg hsg k → B2 ≤ k
  h6 : ¬ BlkR vg hsg gg
  h7 : B1 ≤ B2
section
variable {w0 w w' : World} {B1 B2 gw n cw gg cg : Nat} {vs vx vg : Value} {hss hsx hsg : List Value} {P G : List Pr} {R X H : List Rc}
theorem HexR.below (h : HexR w0 w B1 B2 gw n cw vs vx gg cg vg hss hsx hsg P R X G H) (hb : Below w.heap.size w w') : HexR w0 w' B1 B2 gw n cw vs vx gg cg vg hss hsx hsg P R X G H :=
  ⟨h.bel.trans (hb.mono h.bel.size), h.wp.below hb, h.wr.below hb, h.x.below hb, h.gp.below hb, h.gr.below hb, h.h1, h.h2, h.h3, h.h4, h.h5, h.h6, h.h7⟩
end
end Go.Proofs.Ytggihjmcafoppaa.recs

namespace Go.Proofs.Ytggihjmcafoppaa.recs
open Go Go.RowKit Go.Proofs.Ytggihjmcafoppaa.base Go.Proofs.Ytggihjmcafoppaa.pairs Go.Proofs.Ytggihjmcafoppaa.ords Go.Proofs.Ytggihjmcafoppaa.helps Go.Proofs.Ytggihjmcafoppaa.help Go.Proofs.Ytggihjmcafoppaa.lay
set_option linter.unusedVariables false
set_option linter.unusedSimpArgs false

def Few (l : List Rc) : Prop := ∀ r ∈ l, r.2.2.length ≤ 1099511627776 ∧ ∀ p ∈ r.2.2, p.2.1.size ≤ 1099511627776
abbrev aggSh (id sure : Int) (la : Option Addr) (ln lc : Nat) (ma : Option Addr) (mn mc : Nat) (ha : Option Addr) (hn hc : Nat) : Value := .agg #[.int .i64 id, .slice la ln lc, .int .i64 sure, .slice ma mn mc, .slice ha hn hc]
abbrev boxSh (id sure : Int) (la : Option Addr) (ln lc : Nat) (ma : Option Addr) (mn mc : Nat) (ha : Option Addr) (hn hc : Nat) : Obj := .cells #[.int .i64 id, .slice la ln lc, .int .i64 sure, .slice ma mn mc, .slice ha hn hc] 53
end Go.Proofs.Ytggihjmcafoppaa.recs

namespace Go.Proofs.Ytggihjmcafoppaa.recs
open Go Go.RowKit Go.Proofs.Ytggihjmcafoppaa.base Go.Proofs.Ytggihjmcafoppaa.pairs Go.Proofs.Ytggihjmcafoppaa.ords
set_option linter.unusedVariables false
set_option linter.unusedSimpArgs false

end Go.Proofs.Ytggihjmcafoppaa.recs

namespace Go.Proofs.Ytggihjmcafoppaa.lay
open Go Go.RowKit Go.Proofs.Ytggihjmcafoppaa.base Go.Proofs.Ytggihjmcafoppaa.pairs Go.Proofs.Ytggihjmcafoppaa.ords Go.Proofs.Ytggihjmcafoppaa.recs
theorem BoxIn.set5 {X : Nat} {T : TypeId} {pre post : List Value} {a0 a1 a2 a3 a4 : Value} {w : World} (h : BoxIn X T pre [a0, a1, a2, a3, a4] post w) (b0 b1 b2 b3 b4 : Value) :
    BoxIn X T pre [b0, b1, b2, b3, b4] post (((((w.setCell ⟨X, pre.length, none⟩ b0).setCell ⟨X, pre.length + 1, none⟩ b1).setCell ⟨X, pre.length + 2, none⟩ b2).setCell ⟨X, pre.length + 3, none⟩ b3).setCell ⟨X, pre.length + 4, none⟩ b4) ∧
    w.grownBy (((((w.setCell ⟨X, pre.length, none⟩ b0).setCell ⟨X, pre.length + 1, none⟩ b1).setCell ⟨X, pre.length + 2, none⟩ b2).setCell ⟨X, pre.length + 3, none⟩ b3).setCell ⟨X, pre.length + 4, none⟩ b4) (some X) := by
  have h0 := h.set 0 (by simp) b0
  have h1 := h0.1.set 1 (by simp) b1
  have h2 := h1.1.set 2 (by simp) b2
  have h3 := h2.1.set 3 (by simp) b3
  have h4 := h3.1.set 4 (by simp) b4
  exact ⟨h4.1, grownBy_trans (grownBy_trans (grownBy_trans (grownBy_trans h0.2 h1.2) h2.2) h3.2) h4.2⟩
end Go.Proofs.Ytggihjmcafoppaa.lay
namespace Go.Proofs.Ytggihjmcafoppaa.recs
open Go Go.RowKit Go.Proofs.Ytggihjmcafoppaa.base Go.Proofs.Ytggihjmcafoppaa.pairs Go.Proofs.Ytggihjmcafoppaa.ords Go.Proofs.Ytggihjmcafoppaa.helps Go.Proofs.Ytggihjmcafoppaa.help Go.Proofs.Ytggihjmcafoppaa.lay
set_option linter.unusedVariables false
set_option linter.unusedSimpArgs false

theorem OwnR.notPair {w : World} {base b2 g n cap : Nat} {v : Value} {l : List Rc} {hs : List Value} {P : List Pr} (h : OwnR w base v l hs) (hp : OwnP w b2 g n cap P) : ¬ BlkR v hs g := by
  rintro (e | ⟨y, hy, e⟩)
  · exact recRow_ne h.row hp.2.2 e rfl (by decide)
  · obtain ⟨i, hi, rfl⟩ := List.getElem_of_mem hy
    exact recRow_ne (h.ops i (by have := h.len; omega)).2 hp.2.2 e rfl (by decide)
theorem ownSh_of {w : World} {B C gl ln cl gm mn cm gh hn ch : Nat} {s : Shd} {hl hh : List Value} (hid : (Lit.int .i64 s.1).wf = true) (hsu : (Lit.int .i64 s.2.2.1).wf = true)
    (h1 : OwnR w B (.slice (some ⟨gl, 0, none⟩) ln cl) s.2.1 hl) (h2 : OwnP w B gm mn cm s.2.2.2.1) (h3 : OwnR w B (.slice (some ⟨gh, 0, none⟩) hn ch) s.2.2.2.2 hh) (hlo : ∀ k, BlkR (.slice (some ⟨gl, 0, none⟩) ln cl) hl k → k < C) (hhi : ∀ k, BlkR (.slice (some ⟨gh, 0, none⟩) hn ch) hh k → C ≤ k) :
    ∃ F, OwnSh w (some ⟨gl, 0, none⟩) ln cl (some ⟨gm, 0, none⟩) mn cm (some ⟨gh, 0, none⟩) hn ch s F ∧ ∀ k ∈ F, B ≤ k := by
  have o1 := h1.mono (base' := 0) (Nat.zero_le _)
  have o3 := h3.mono (base' := 0) (Nat.zero_le _)
  have d1 := lay.recsR.ownNodup (lay.recs_own.2 ⟨hl, o1, rfl⟩)
  have d3 := lay.recsR.ownNodup (lay.recs_own.2 ⟨hh, o3, rfl⟩)
  refine ⟨_, ⟨hid, hsu, ⟨hl, o1, hh, o3, rfl⟩, ownPV_of h2, ?_⟩, fun k hk => ?_⟩
  · refine nodup_mk d1 (nodup_mk (by simp [Value.ownBlock]) d3 (fun k hk hk2 => ?_)) (fun k hk hk2 => ?_)
    · have : k = gm := by simpa [Value.ownBlock] using hk
      subst this
      exact h3.notPair h2 (lay.mem_blkR.1 hk2)
    · have hk := lay.mem_blkR.1 hk
      rcases List.mem_append.1 hk2 with e | e
      · have : k = gm := by simpa [Value.ownBlock] using e
        subst this
        exact h1.notPair h2 hk
      · have := hlo k hk
        have := hhi k (lay.mem_blkR.1 e)
        omega
  · rcases List.mem_append.1 hk with e | e
    · exact (h1.lt k (lay.mem_blkR.1 e)).1
    · rcases List.mem_append.1 e with e | e
      · have : k = gm := by simpa [Value.ownBlock] using e
        subst this
        exact h2.lt.1
      · exact (h3.lt k (lay.mem_blkR.1 e)).1
end Go.Proofs.Ytggihjmcafoppaa.recs

namespace Go.Proofs.Ytggihjmcafoppaa.recs
open Go Go.RowKit Go.Proofs.Ytggihjmcafoppaa.base Go.Proofs.Ytggihjmcafoppaa.pairs Go.Proofs.Ytggihjmcafoppaa.ords Go.Proofs.Ytggihjmcafoppaa.helps Go.Proofs.Ytggihjmcafoppaa.help Go.Proofs.Ytggihjmcafoppaa.lay
set_option linter.unusedVariables false
set_option linter.unusedSimpArgs false

def szSh (s : Shd) : Nat := (s.2.1.length + sumR s.2.1) + (s.2.2.2.1.length + sumP s.2.2.2.1) + (s.2.2.2.2.length + sumR s.2.2.2.2)
theorem rsz_in (l : List Rc) (r : Rc) (h : r ∈ l) : rsz r ≤ sumR l := by
  induction l with
  | nil => cases h
  | cons x l ih =>
    have e : sumR (x :: l) = rsz x + sumR l := by simp [sumR]
    rcases List.mem_cons.1 h with rfl | h
    · omega
    · have := ih h; omega
theorem few_of {l : List Rc} {N : Nat} (h : sumR l ≤ N) (hN : N ≤ 1099511627776) : Few l := fun r hr => by
  have h1 := rsz_in l r hr
  unfold rsz at h1
  refine ⟨by omega, fun p hp => ?_⟩
  have h2 := osz_le r.2.2 p hp
  unfold osz at h2
  omega
section
variable {w w' : World} {la ma ha : Option Addr} {ln lc mn mc hn hc : Nat} {s : Shd} {F : List Nat}
theorem SeeSh.lens (h : SeeSh w la ln lc ma mn mc ha hn hc s) : s.2.1.length = ln ∧ s.2.2.2.1.length = mn ∧ s.2.2.2.2.length = hn := ⟨h.log.1, h.map.1, h.held.1⟩
end
set_option maxRecDepth 100000 in
set_option maxHeartbeats 2000000 in
theorem szShard (la : Option Addr) (ln lc : Nat) (ma : Option Addr) (mn mc : Nat) (ha : Option Addr) (hn hc : Nat) (s : Shd) (L : Nat) (w : World) (h : SeeSh w la ln lc ma mn mc ha hn hc s) (hL : L ≤ 1099511627776) :
    Calls Try.prog 75 #[aggSh s.1 s.2.2.1 la ln lc ma mn mc ha hn hc, .int .i64 (L : Int)] w fun e w' => e = .returned (.int .i64 (pairs.szR L (szSh s))) ∧ Below w.heap.size w w' := by
  obtain ⟨W, hW⟩ : ∃ W, w.alloc (.cells #[.int .i64 s.1, .slice la ln lc, .int .i64 s.2.2.1, .slice ma mn mc, .slice ha hn hc] 107) = W := ⟨_, rfl⟩
  have hB : Below w.heap.size w W := by rw [← hW]; exact (Below.refl _ _).alloc (Nat.le_refl _) _
  have hbx : BoxIn w.heap.size 107 [] (shVals s.1 s.2.2.1 la ln lc ma mn mc ha hn hc) [] W := by rw [← hW]; exact boxIn_new w _ _
  have HW := Hid.mk' hW
  have c1 := hbx.cell 1 _ rfl
  simp only [List.length_nil, Nat.zero_add] at c1
  rw [← hW] at c1
  clear hW
  obtain ⟨A, hA⟩ : ∃ A, A = s.2.1.length + sumR s.2.1 := ⟨_, rfl⟩
  obtain ⟨Bq, hBq⟩ : ∃ Bq, Bq = s.2.2.2.1.length + sumP s.2.2.2.1 := ⟨_, rfl⟩
  obtain ⟨Cq, hCq⟩ : ∃ Cq, Cq = s.2.2.2.2.length + sumR s.2.2.2.2 := ⟨_, rfl⟩
  have HS : Hid (szSh s = A + Bq + Cq) := by show _ = _; unfold szSh; rw [hA, hBq, hCq]
  have H1 := Hid.mk' (szRecS la ln lc s.2.1 L W (h.log.below hB) hL)
  have H2 := Hid.mk' (fun (L2 : Nat) (hL2 : L2 ≤ 1099511627776) wx (hx : Below w.heap.size w wx) => szPairS ma mn mc s.2.2.2.1 L2 wx (h.map.below hx) hL2)
  have H3 := Hid.mk' (fun (L2 : Nat) (hL2 : L2 ≤ 1099511627776) wx (hx : Below w.heap.size w wx) => szRecS ha hn hc s.2.2.2.2 L2 wx (h.held.below hx) hL2)
  rw [← hA] at H1
  rw [← hBq] at H2
  rw [← hCq] at H3
  clear hA hBq hCq h
  by_cases g1 : A ≤ L
  · obtain ⟨L1, hL1⟩ : ∃ L1 : Nat, (L : Int) - (A : Int) = (L1 : Int) := ⟨L - A, by omega⟩
    rw [pairs.szR_pos g1, hL1] at H1
    have hn1 : ¬ (L1 : Int) < 0 := by omega
    by_cases g2 : Bq ≤ L1
    · obtain ⟨L2, hL2⟩ : ∃ L2 : Nat, (L1 : Int) - (Bq : Int) = (L2 : Int) := ⟨L1 - Bq, by omega⟩
      have H2' := Hid.mk' (H2.out L1 (by omega))
      rw [pairs.szR_pos g2, hL2] at H2'
      have hn2 : ¬ (L2 : Int) < 0 := by omega
      by_cases g3 : Cq ≤ L2
      · obtain ⟨L3, hL3⟩ : ∃ L3 : Nat, (L2 : Int) - (Cq : Int) = (L3 : Int) := ⟨L2 - Cq, by omega⟩
        have H3' := Hid.mk' (H3.out L2 (by omega))
        rw [pairs.szR_pos g3, hL3] at H3'
        have hn3 : ¬ (L3 : Int) < 0 := by omega
        have HV : Hid (pairs.szR L (szSh s) = (L3 : Int)) := by show _ = _; rw [HS.out, pairs.szR_pos (by omega)]; omega
        clear H2 H3 hL1 hL2 hL3 g1 g2 g3
        go_enter Try.func75, Try.ntmps75
        go_wp2_with fail
        rw [HW.out]
        refine H1.out.mono ?_
        rintro e w1 ⟨rfl, hb1⟩
        have hB1 := hB.trans (hb1.mono hB.size)
        have hbx1 := hbx.below hb1
        have d3 := hbx1.cell 3 _ rfl
        simp only [List.length_nil, Nat.zero_add] at d3
        clear c1 H1
        go_wp2_with fail
        refine (H2'.out _ hB1).mono ?_
        rintro e w2 ⟨rfl, hb2⟩
        have hB2 := hB1.trans (hb2.mono hB1.size)
        have hbx2 := hbx1.below hb2
        have d4 := hbx2.cell 4 _ rfl
        simp only [List.length_nil, Nat.zero_add] at d4
        clear d3 H2'
        go_wp2_with fail
        refine (H3'.out _ hB2).mono ?_
        rintro e w3 ⟨rfl, hb3⟩
        have hB3 := hB2.trans (hb3.mono hB2.size)
        clear d4 H3'
        go_wp2_with fail
        go_ret
        rw [HV.out]
        exact ⟨rfl, hB3⟩
      · have H3' := Hid.mk' (H3.out L2 (by omega))
        rw [pairs.szR_neg (by omega)] at H3'
        have HV : Hid (pairs.szR L (szSh s) = -1) := by show _ = _; rw [HS.out, pairs.szR_neg (by omega)]
        clear H2 H3 hL1 hL2 g1 g2 g3
        go_enter Try.func75, Try.ntmps75
        go_wp2_with fail
        rw [HW.out]
        refine H1.out.mono ?_
        rintro e w1 ⟨rfl, hb1⟩
        have hB1 := hB.trans (hb1.mono hB.size)
        have hbx1 := hbx.below hb1
        have d3 := hbx1.cell 3 _ rfl
        simp only [List.length_nil, Nat.zero_add] at d3
        clear c1 H1
        go_wp2_with fail
        refine (H2'.out _ hB1).mono ?_
        rintro e w2 ⟨rfl, hb2⟩
        have hB2 := hB1.trans (hb2.mono hB1.size)
        have hbx2 := hbx1.below hb2
        have d4 := hbx2.cell 4 _ rfl
        simp only [List.length_nil, Nat.zero_add] at d4
        clear d3 H2'
        go_wp2_with fail
        refine (H3'.out _ hB2).mono ?_
        rintro e w3 ⟨rfl, hb3⟩
        have hB3 := hB2.trans (hb3.mono hB2.size)
        clear d4 H3'
        go_wp2_with fail
        go_ret
        rw [HV.out]
        exact ⟨rfl, hB3⟩
    · have H2' := Hid.mk' (H2.out L1 (by omega))
      rw [pairs.szR_neg (by omega)] at H2'
      have HV : Hid (pairs.szR L (szSh s) = -1) := by show _ = _; rw [HS.out, pairs.szR_neg (by omega)]
      clear H2 H3 hL1 g1 g2
      go_enter Try.func75, Try.ntmps75
      go_wp2_with fail
      rw [HW.out]
      refine H1.out.mono ?_
      rintro e w1 ⟨rfl, hb1⟩
      have hB1 := hB.trans (hb1.mono hB.size)
      have hbx1 := hbx.below hb1
      have d3 := hbx1.cell 3 _ rfl
      simp only [List.length_nil, Nat.zero_add] at d3
      clear c1 H1
      go_wp2_with fail
      refine (H2'.out _ hB1).mono ?_
      rintro e w2 ⟨rfl, hb2⟩
      have hB2 := hB1.trans (hb2.mono hB1.size)
      clear d3 H2'
      go_wp2_with fail
      go_ret
      rw [HV.out]
      exact ⟨rfl, hB2⟩
  · rw [pairs.szR_neg (by omega)] at H1
    have HV : Hid (pairs.szR L (szSh s) = -1) := by show _ = _; rw [HS.out, pairs.szR_neg (by omega)]
    clear H2 H3 g1
    go_enter Try.func75, Try.ntmps75
    go_wp2_with fail
    rw [HW.out]
    refine H1.out.mono ?_
    rintro e w1 ⟨rfl, hb1⟩
    have hB1 := hB.trans (hb1.mono hB.size)
    clear c1 H1
    go_wp2_with fail
    go_ret
    rw [HV.out]
    exact ⟨rfl, hB1⟩
theorem eqPairsS (a a2 : Option Addr) (len cap len2 cap2 : Nat) (l : List Pr) (w : World) (h : SlP w a len l) (h2 : SlP w a2 len2 l) :
    Calls Try.prog 93 #[.slice a len cap, .slice a2 len2 cap2] w fun e w' => e = .returned (.bool true) ∧ Below w.heap.size w w' :=
  (eqPairS a a2 len cap len2 cap2 l l w h h2).mono fun e w' hp => ⟨by rw [hp.1]; simp, hp.2⟩
set_option maxRecDepth 100000 in
set_option maxHeartbeats 2000000 in
theorem eqShardT (la : Option Addr) (ln lc : Nat) (ma : Option Addr) (mn mc : Nat) (ha : Option Addr) (hn hc : Nat) (la2 : Option Addr) (ln2 lc2 : Nat) (ma2 : Option Addr) (mn2 mc2 : Nat) (ha2 : Option Addr) (hn2 hc2 : Nat) (s : Shd) (w : World) (h : SeeSh w la ln lc ma mn mc ha hn hc s) (h2 : SeeSh w la2 ln2 lc2 ma2 mn2 mc2 ha2 hn2 hc2 s) :
    Calls Try.prog 60 #[aggSh s.1 s.2.2.1 la ln lc ma mn mc ha hn hc, aggSh s.1 s.2.2.1 la2 ln2 lc2 ma2 mn2 mc2 ha2 hn2 hc2] w fun e w' => e = .returned (.bool true) ∧ Below w.heap.size w w' := by
  obtain ⟨l1, l2, l3⟩ := SeeSh.lens h
  obtain ⟨k1, k2, k3⟩ := SeeSh.lens h2
  obtain rfl : ln2 = ln := by omega
  obtain rfl : mn2 = mn := by omega
  obtain rfl : hn2 = hn := by omega
  obtain ⟨W, hW⟩ : ∃ W, (w.alloc (boxSh s.1 s.2.2.1 la ln2 lc ma mn2 mc ha hn2 hc)).alloc (boxSh s.1 s.2.2.1 la2 ln2 lc2 ma2 mn2 mc2 ha2 hn2 hc2) = W := ⟨_, rfl⟩
  have hba : Below w.heap.size w (w.alloc (boxSh s.1 s.2.2.1 la ln2 lc ma mn2 mc ha hn2 hc)) := (Below.refl _ _).alloc (Nat.le_refl _) _
  have hB : Below w.heap.size w W := by rw [← hW]; exact hba.alloc hba.size _
  have hT : BoxIn w.heap.size 53 [] (shVals s.1 s.2.2.1 la ln2 lc ma mn2 mc ha hn2 hc) [] W := by rw [← hW]; exact (boxIn_new w _ _).below ((Below.refl _ _).alloc (Nat.le_refl _) _)
  have hR : BoxIn (w.heap.size + 1) 53 [] (shVals s.1 s.2.2.1 la2 ln2 lc2 ma2 mn2 mc2 ha2 hn2 hc2) [] W := by
    rw [← hW]
    have := boxIn_new (w.alloc (boxSh s.1 s.2.2.1 la ln2 lc ma mn2 mc ha hn2 hc)) (shVals s.1 s.2.2.1 la2 ln2 lc2 ma2 mn2 mc2 ha2 hn2 hc2) 53
    rwa [show (w.alloc (boxSh s.1 s.2.2.1 la ln2 lc ma mn2 mc ha hn2 hc)).heap.size = w.heap.size + 1 by simp] at this
  have HW := Hid.mk' hW
  have a0 := hT.cell 0 _ rfl
  have a1 := hT.cell 1 _ rfl
  have b0 := hR.cell 0 _ rfl
  have b1 := hR.cell 1 _ rfl
  simp only [List.length_nil, Nat.zero_add] at a0 a1 b0 b1
  rw [← hW] at a0 a1 b0 b1
  have f1 : (s.1 == s.1) = true := by simp
  have f2 : (s.2.2.1 == s.2.2.1) = true := by simp
  have H1 := Hid.mk' (eqRecsT la la2 ln2 lc lc2 s.2.1 W (h.log.below hB) (h2.log.below hB))
  have H2 := Hid.mk' (fun wx (hx : Below w.heap.size w wx) => eqPairsS ma ma2 mn2 mc mn2 mc2 s.2.2.2.1 wx (h.map.below hx) (h2.map.below hx))
  have H3 := Hid.mk' (fun wx (hx : Below w.heap.size w wx) => eqRecsT ha ha2 hn2 hc hc2 s.2.2.2.2 wx (h.held.below hx) (h2.held.below hx))
  clear hW l1 l2 l3 k1 k2 k3 h h2
  go_enter Try.func60, Try.ntmps60
  go_wp2_with fail
  rw [HW.out]
  refine H1.out.mono ?_
  rintro e w1 ⟨rfl, hb1⟩
  have hB1 := hB.trans (hb1.mono hB.size)
  have hT1 := hT.below hb1
  have hR1 := hR.below hb1
  have p2 := hT1.cell 2 _ rfl
  have p3 := hT1.cell 3 _ rfl
  have q2 := hR1.cell 2 _ rfl
  have q3 := hR1.cell 3 _ rfl
  simp only [List.length_nil, Nat.zero_add] at p2 p3 q2 q3
  clear a0 a1 b0 b1 H1 HW
  go_wp2_with fail
  refine (H2.out _ hB1).mono ?_
  rintro e w2 ⟨rfl, hb2⟩
  have hB2 := hB1.trans (hb2.mono hB1.size)
  have p4 := (hT1.below hb2).cell 4 _ rfl
  have q4 := (hR1.below hb2).cell 4 _ rfl
  simp only [List.length_nil, Nat.zero_add] at p4 q4
  clear p2 p3 q2 q3 H2
  go_wp2_with fail
  refine (H3.out _ hB2).mono ?_
  rintro e w3 ⟨rfl, hb3⟩
  have hB3 := hB2.trans (hb3.mono hB2.size)
  clear p4 q4 H3
  go_wp2_with fail
  go_ret
  exact ⟨rfl, hB3⟩
end Go.Proofs.Ytggihjmcafoppaa.recs

namespace Go.Proofs.Ytggihjmcafoppaa.cos
open Go Go.RowKit Go.Proofs.Ytggihjmcafoppaa.base Go.Proofs.Ytggihjmcafoppaa.pairs Go.Proofs.Ytggihjmcafoppaa.ords Go.Proofs.Ytggihjmcafoppaa.lay Go.Proofs.Ytggihjmcafoppaa.wds
set_option linter.unusedVariables false
set_option linter.unusedSimpArgs false

theorem word_at {w : World} {b off len : Nat} {l : List Wd} (h : SlG wordR w (some ⟨b, off, none⟩) len l) (i : Nat) (hi : i < l.length) :
    ∃ oa ol oc, w.cell? ⟨b, off + i * 5, none⟩ = some (.int .i64 l[i].1) ∧ w.cell? ⟨b, off + i * 5 + 1, none⟩ = some (.int .i64 l[i].2.1) ∧ w.cell? ⟨b, off + i * 5 + 2, none⟩ = some (.int .i64 l[i].2.2.1) ∧ w.cell? ⟨b, off + i * 5 + 3, none⟩ = some (.slice oa ol oc) ∧ w.cell? ⟨b, off + i * 5 + 4, none⟩ = some (.bool l[i].2.2.2.2) ∧ SlO w oa ol l[i].2.2.2.1 ∧ ol ≤ oc := by
  obtain ⟨u0, u1, u2, u3, u4, hs, c0, c1, c2, c3, c4⟩ := slg_at5 rfl h i hi
  obtain ⟨oa, ol, oc, e, _, _, _, h4, h5⟩ := word_see.1 hs
  simp only [List.cons.injEq, and_true] at e
  obtain ⟨rfl, rfl, rfl, rfl, rfl⟩ := e
  exact ⟨oa, ol, oc, c0, c1, c2, c3, c4, h4, h5⟩
set_option maxRecDepth 100000 in
set_option maxHeartbeats 1000000 in
theorem eqWord1T (k s t : Int) (y : Bool) (pa qa : Option Addr) (pl pc ql qc : Nat) (l : List Od) (w : World) (hx : SlO w pa pl l) (hy : SlO w qa ql l) :
    Calls Try.prog 61 #[.agg #[.int .i64 k, .int .i64 s, .int .i64 t, .slice pa pl pc, .bool y], .agg #[.int .i64 k, .int .i64 s, .int .i64 t, .slice qa ql qc, .bool y]] w fun e w' => e = .returned (.bool true) ∧ Below w.heap.size w w' := by
  obtain ⟨W, hW⟩ : ∃ W, (w.alloc (.cells #[.int .i64 k, .int .i64 s, .int .i64 t, .slice pa pl pc, .bool y] 94)).alloc (.cells #[.int .i64 k, .int .i64 s, .int .i64 t, .slice qa ql qc, .bool y] 94) = W := ⟨_, rfl⟩
  have hB : Below w.heap.size w W := by rw [← hW]; exact below_two _ _ _
  have vx : BoxIn w.heap.size 94 [] [.int .i64 k, .int .i64 s, .int .i64 t, .slice pa pl pc, .bool y] [] W := by rw [← hW]; exact (boxIn_new w _ _).below below_make
  have vy : BoxIn (w.heap.size + 1) 94 [] [.int .i64 k, .int .i64 s, .int .i64 t, .slice qa ql qc, .bool y] [] W := by
    rw [← hW]
    have := boxIn_new (w.alloc (.cells #[.int .i64 k, .int .i64 s, .int .i64 t, .slice pa pl pc, .bool y] 94)) [.int .i64 k, .int .i64 s, .int .i64 t, .slice qa ql qc, .bool y] 94
    rwa [show (w.alloc (.cells #[.int .i64 k, .int .i64 s, .int .i64 t, .slice pa pl pc, .bool y] 94)).heap.size = w.heap.size + 1 by simp] at this
  have HE := Hid.mk' (eqO pa qa pl pc ql qc l l W (hx.below hB) (hy.below hB) rfl)
  have HW := Hid.mk' hW
  clear hW
  cases y
  all_goals
    have hn1 : (k == k) = true := by simp
    have hn2 : (s == s) = true := by simp
    have hn3 : (t == t) = true := by simp
    go_enter Try.func61, Try.ntmps61
    go_wp2_with fail
    rw [HW.out]
    refine HE.out.mono ?_
    rintro e w1 ⟨rfl, hb1⟩
    have hB1 := hB.trans (hb1.mono hB.size)
    have x4 := (vx.below hb1).cell 4 _ rfl
    have y4 := (vy.below hb1).cell 4 _ rfl
    rw [show ([] : List Value).length + 4 = 4 from rfl] at x4 y4
    clear HE HW hb1 vx vy
    go_wp2_with fail
    go_ret
    exact ⟨rfl, hB1⟩
set_option maxRecDepth 100000 in
set_option maxHeartbeats 2000000 in
theorem eqWordsT (a a2 : Option Addr) (len cap cap2 : Nat) (l : List Wd) (w : World) (h : SlG wordR w a len l) (h2 : SlG wordR w a2 len l) :
    Calls Try.prog 28 #[.slice a len cap, .slice a2 len cap2] w fun e w' => e = .returned (.bool true) ∧ Below w.heap.size w w' := by
  have hl := h.1
  have hm := h.2.1
  unfold maxLen at hm
  have hb : ((len : Int) == (len : Int)) = true := by simp
  go_enter Try.func28, Try.ntmps28
  go_wp2_with fail
  go_loopw [5] (fun i wr => ∃ k : Nat, k ≤ len ∧ i = .int .i64 k ∧ Below w.heap.size w wr) (fun i _ => len - (intOf i).toNat)
  case atStart => exact ⟨0, Nat.zero_le _, rfl, Below.refl _ _⟩
  case round =>
    obtain ⟨k, hk, rfl, hB⟩ := hrel
    by_cases hlt : k < len
    · have hltl : k < l.length := by omega
      obtain ⟨b, off, e⟩ := slg_some h (by omega)
      obtain ⟨b2, off2, e2⟩ := slg_some h2 (by omega)
      subst e e2
      have hki : (k : Int) < (len : Int) := by omega
      obtain ⟨oa, ol, oc, c0, c1, c2, c3, c4, hO1, _⟩ := word_at (h.below hB) k hltl
      obtain ⟨ob, bl, bc, d0, d1, d2, d3, d4, hO2, _⟩ := word_at (h2.below hB) k hltl
      have o0 := last.On.cell (B := wr.heap.size) c0 (World.block_lt_of_cell? _ _ c0)
      have o1 := last.On.cell (B := wr.heap.size) c1 (World.block_lt_of_cell? _ _ c1)
      have o2 := last.On.cell (B := wr.heap.size) c2 (World.block_lt_of_cell? _ _ c2)
      have o3 := last.On.cell (B := wr.heap.size) c3 (World.block_lt_of_cell? _ _ c3)
      have o4 := last.On.cell (B := wr.heap.size) c4 (World.block_lt_of_cell? _ _ c4)
      have p0 := last.On.cell (B := wr.heap.size) d0 (World.block_lt_of_cell? _ _ d0)
      have p1 := last.On.cell (B := wr.heap.size) d1 (World.block_lt_of_cell? _ _ d1)
      have p2 := last.On.cell (B := wr.heap.size) d2 (World.block_lt_of_cell? _ _ d2)
      have p3 := last.On.cell (B := wr.heap.size) d3 (World.block_lt_of_cell? _ _ d3)
      have p4 := last.On.cell (B := wr.heap.size) d4 (World.block_lt_of_cell? _ _ d4)
      have hinh := last.On.inh wr.heap.size wr
      have hcall : ∀ x : last.On wr.heap.size wr, Calls Try.prog 61 #[.agg #[.int .i64 l[k].1, .int .i64 l[k].2.1, .int .i64 l[k].2.2.1, .slice oa ol oc, .bool l[k].2.2.2.2], .agg #[.int .i64 l[k].1, .int .i64 l[k].2.1, .int .i64 l[k].2.2.1, .slice ob bl bc, .bool l[k].2.2.2.2]] x.w fun e w' => e = .returned (.bool true) ∧ ∃ y : last.On wr.heap.size wr, w' = y.w := fun x => last.Calls.on x (Nat.le_refl _) (eqWord1T _ _ _ _ oa ob ol oc bl bc l[k].2.2.2.1 x.w (hO1.below x.2) (hO2.below x.2))
      clear h h2 hO1 hO2
      generalize l[k] = p at *
      go_wp2_with fail
      refine last.wp_region_on wr.heap.size (by kernel_rfl) (by kernel_rfl) ?_
      repeat (go_big_quiet_step ((go_at_call 61; exact hcall _)))
      refine wpQuiet_nil ?_
      intro w5 hw5
      obtain ⟨x5, hw5⟩ := hw5
      subst hw5
      have hB5 : Below w.heap.size w x5.w := hB.trans (x5.2.mono hB.size)
      go_wp2_with fail
      go_roundw
      case rel => exact ⟨k + 1, by omega, by go_num, hB5⟩
      case measure => simp [intOf]; omega
    · have hnk : ¬ (k : Int) < (len : Int) := by omega
      go_wp2_with fail
      go_ret
      exact ⟨rfl, hB⟩
end Go.Proofs.Ytggihjmcafoppaa.cos
