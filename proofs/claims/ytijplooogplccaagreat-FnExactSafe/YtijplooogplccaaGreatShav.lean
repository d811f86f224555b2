/- RecHD RecHex ShB RecZm ShC ShHa -/
import Derived.Test.YtijplooogplccaaGreatShau
import Derived.Test.YtijplooogplccaaGreatShag
import Derived.Test.YtijplooogplccaaGreatShaj
import Derived.Test.YtijplooogplccaaGreatShan
set_option linter.unusedVariables false
set_option linter.unusedSimpArgs false
namespace Go.Proofs.YtijplooogplccaaGreat
namespace recs
open Go Go.RowKit base pairs ords
theorem recVals_put (l : List Rc) (hs : List Value) (h : hs.length = l.length) (i : Nat) (hi : i < l.length) (x : Rc) (y : Value) : (((recVals l hs).set (i * 3) (.int .i64 x.1)).set (i * 3 + 1) (.int .i64 x.2.1)).set (i * 3 + 2) y = recVals (l.set i x) (hs.set i y) := by
 induction l generalizing hs i with
 | nil => simp at hi
 | cons r l ih =>
  cases hs with
  | nil => simp at h
  | cons u hs =>
   cases i with
   | zero => rfl
   | succ i =>
    rw [recVals_cons, show (i + 1) * 3 = i * 3 + 1 + 1 + 1 by omega, show i * 3 + 1 + 1 + 1 + 1 = (i * 3 + 1) + 1 + 1 + 1 by omega, show i * 3 + 1 + 1 + 1 + 2 = (i * 3 + 2) + 1 + 1 + 1 by omega]
    simp only [List.set_cons_succ, recVals_cons]
    rw [ih hs (by simpa using h) i (by simpa using hi)]
theorem OwnR.put {w : World} {base g n cap : Nat} {l : List Rc} {hs : List Value} (h : OwnR w base (.slice (some ⟨g, 0, none⟩) n cap) l hs) (i : Nat) (hi : i < l.length) (x : Rc) (y : Value) (hx : smallR x) (hy : OwnV w base y x.2.2) (hout : ∀ k, y.ownBlock = some k → ¬ BlkR (.slice (some ⟨g, 0, none⟩) n cap) hs k) :
 OwnR (((w.setCell ⟨g, i * 3, none⟩ (.int .i64 x.1)).setCell ⟨g, i * 3 + 1, none⟩ (.int .i64 x.2.1)).setCell ⟨g, i * 3 + 2, none⟩ y) base (.slice (some ⟨g, 0, none⟩) n cap) (l.set i x) (hs.set i y) ∧
  w.grownBy (((w.setCell ⟨g, i * 3, none⟩ (.int .i64 x.1)).setCell ⟨g, i * 3 + 1, none⟩ (.int .i64 x.2.1)).setCell ⟨g, i * 3 + 2, none⟩ y) (some g) := by
 obtain rfl := h.nlen
 have hlen := h.len
 have s0 := h.row.stored (i * 3) (.int .i64 x.1)
 have s1 := s0.1.stored (i * 3 + 1) (.int .i64 x.2.1)
 have s2 := s1.1.stored (i * 3 + 2) y
 rw [recVals_put l hs h.len i hi x y] at s2
 have hg := grownBy_trans (grownBy_trans s0.2 s1.2) s2.2
 have hyg : y.ownBlock ≠ some g := fun e => hout g e (.inl rfl)
 refine ⟨⟨by simpa using h.len, mem_set_smallR h.sm hx, by simpa using s2.1, fun j hj => ?_, ?_, ?_⟩, hg⟩
 · have hjl : j < l.length := by simpa using hj
   by_cases e : i = j
   · subst e
     rw [List.getElem_set_self, List.getElem_set_self]
     exact hy.grown hg (.inr hyg)
   · rw [List.getElem_set_ne e, List.getElem_set_ne e]
     exact (h.ops j hjl).grown hg (.inr (h.out g rfl _ (List.getElem_mem _)))
 · rw [List.pairwise_iff_getElem]
   intro a b ha hb hab
   have ha' : a < hs.length := by simpa using ha
   have hb' : b < hs.length := by simpa using hb
   have hp := List.pairwise_iff_getElem.1 h.apart a b ha' hb' hab
   by_cases ea : i = a
   · subst ea
     rw [List.getElem_set_self, List.getElem_set_ne (by omega)]
     cases e : y.ownBlock with
     | none => exact .inl rfl
     | some k => exact .inr (fun e2 => hout k e (.inr ⟨hs[b], List.getElem_mem _, e2.symm⟩))
   · rw [List.getElem_set_ne ea]
     by_cases eb : i = b
     · subst eb
       rw [List.getElem_set_self]
       cases e : hs[a].ownBlock with
       | none => exact .inl rfl
       | some k => exact .inr (fun e2 => hout k e2.symm (.inr ⟨hs[a], List.getElem_mem _, e⟩))
     · rw [List.getElem_set_ne eb]; exact hp
 · intro k hk z hz
   rcases List.mem_or_eq_of_mem_set hz with h1 | h1
   · exact h.out k hk z h1
   · subst h1
     have : k = g := by simpa [Value.ownBlock] using hk.symm
     rw [this]; exact hyg
def copyR (l : List Rc) (k : Nat) : List Rc := l.take k ++ List.replicate (l.length - k) (0, 0, [])
theorem copyR_length (l : List Rc) (k : Nat) (h : k ≤ l.length) : (copyR l k).length = l.length := by simp [copyR]; omega
theorem copyR_set (l : List Rc) (k : Nat) (h : k < l.length) : (copyR l k).set k l[k] = copyR l (k + 1) := by
 unfold copyR
 rw [List.take_succ_eq_append_getElem h]
 have e1 : (l.take k).length = k := by simp; omega
 have e2 : l.length - k = (l.length - (k + 1)) + 1 := by omega
 rw [List.set_append_right _ _ (by omega), e1, Nat.sub_self, e2, List.replicate_succ, List.set_cons_zero, List.append_assoc]
 rfl
theorem copyR_all (l : List Rc) : copyR l l.length = l := by simp [copyR]
theorem recVals_rep (n : Nat) : recVals (List.replicate n (0, 0, [])) (List.replicate n (.slice none 0 0)) = (madeCells (Value.agg #[.int .i64 0, .int .i64 0, .slice none 0 0]).cells (n * 3)).toList := by
 apply List.ext_getElem?
 intro j
 by_cases hj : j < n * 3
 · have hd : j / 3 < n := by omega
   have hc := recVals_get (List.replicate n ((0, 0, []) : Rc)) (List.replicate n (.slice none 0 0)) (by simp) (j / 3) (by simpa using hd)
   have hmod : j % 3 = 0 ∨ j % 3 = 1 ∨ j % 3 = 2 := by omega
   rcases hmod with h3 | h3 | h3
   · have e : j = j / 3 * 3 := by omega
     conv => lhs; rw [e, hc.1]
     simp [madeCells, h3, hj, Value.cells]
   · have e : j = j / 3 * 3 + 1 := by omega
     conv => lhs; rw [e, hc.2.1]
     simp [madeCells, h3, hj, Value.cells]
   · have e : j = j / 3 * 3 + 2 := by omega
     conv => lhs; rw [e, hc.2.2]
     simp [madeCells, h3, hj, Value.cells]
 · rw [List.getElem?_eq_none (by rw [recVals_length _ _ (by simp)]; simp; omega), List.getElem?_eq_none (by simp [madeCells]; omega)]
theorem infoRH : (Tryz.prog.info? 133).map (fun i => (i.zero, i.size, i.bytes)) = some (some (.agg #[.int .i64 0, .int .i64 0, .slice none 0 0]), 3, 40) := by kernel_rfl
theorem copyR_small {l : List Rc} (k : Nat) (h : ∀ x ∈ l, smallR x) : ∀ x ∈ copyR l k, smallR x := by
 intro x hx
 rcases List.mem_append.1 hx with h1 | h1
 · exact h x (List.mem_of_mem_take h1)
 · obtain rfl := (List.mem_replicate.1 h1).2
   exact ⟨rfl, rfl, fun o ho => absurd ho List.not_mem_nil⟩
set_option maxRecDepth 100000 in
set_option maxHeartbeats 2000000 in
theorem toRecS (a : Option Addr) (len cap : Nat) (l : List Rc) (w : World) (h : SlR w a len l) (hsz : len ≤ 1099511627776) (hops : ∀ r ∈ l, r.2.2.length ≤ 1099511627776) :
 Calls Tryz.prog 88 #[.slice a len cap] w fun e w' => ∃ g hs, e = .returned (.slice (some ⟨g, 0, none⟩) len len) ∧ OwnR w' w.heap.size (.slice (some ⟨g, 0, none⟩) len len) l hs ∧ Below w.heap.size w w' := by
 obtain ⟨hl, hm, hsm, hc⟩ := id h
 subst hl
 have hm' := hm
 unfold maxLen at hm'
 obtain ⟨i0, hif, hz0, hz1, hz2⟩ := info_parts infoRH
 go_enter Tryz.func88, Tryz.ntmps88
 go_wp2_with (at_make; refine wpList_make_full _ rfl _ _ 52 rfl w.heap.size 133 i0 (.agg #[.int .i64 0, .int .i64 0, .slice none 0 0]) 3 Tryz.underlying52 hif hz0 hz1 _ _ _ _ l.length rfl rfl rfl rfl ?b2 ?b3 ?b4 ?_)
 case b2 => rw [hz2]; omega
 case b3 => exact hm
 case b4 => exact Nat.le_refl _
 intro w1 hown hgrow
 have hOwn : OwnR w1 w.heap.size (.slice (some ⟨w.heap.size, 0, none⟩) l.length l.length) (copyR l 0) (List.replicate l.length (.slice none 0 0)) := by
  have e0 : copyR l 0 = List.replicate l.length (0, 0, []) := by simp [copyR]
  refine ⟨by rw [e0]; simp, copyR_small 0 hsm, ?_, fun i hi => ?_, ?_, ?_⟩
  · rw [e0, recVals_rep, List.length_replicate]; exact hown
  · have hi' : i < l.length := by rw [e0] at hi; simpa using hi
    simp only [e0, List.getElem_replicate]
    exact ownV_nil _ _
  · rw [List.pairwise_iff_getElem]
    intro x y hx hy hxy
    left
    rw [List.getElem_replicate]; rfl
  · intro k hk y hy
    obtain rfl := (List.mem_replicate.1 hy).2
    simp [Value.ownBlock]
 have hbel : Below w.heap.size w w1 := (Below.refl _ _).grown hgrow (Nat.le_refl _) (fun k e => by cases e)
 clear hown hgrow hif hz0 hz1 hz2
 go_wp2_with fail
 go_loopw [4] (fun i wr => ∃ (k : Nat) (hs : List Value), k ≤ l.length ∧ i = .int .i64 k ∧ OwnR wr w.heap.size (.slice (some ⟨w.heap.size, 0, none⟩) l.length l.length) (copyR l k) hs ∧ Below w.heap.size w wr) (fun i _ => l.length - (intOf i).toNat)
 case atStart => exact ⟨0, _, Nat.zero_le _, rfl, hOwn, hbel⟩
 case round =>
  clear hOwn hbel
  obtain ⟨k, hs, hk, rfl, hO, hB⟩ := hrel
  by_cases hlt : k < l.length
  · obtain ⟨b, off, ha, _⟩ := hc (by omega)
    subst ha
    obtain ⟨c0, c1, pa, pl, pc, c2, hSo, _⟩ := (h.at k hlt).below hB
    have hpk := hsm _ (List.getElem_mem hlt)
    have hki : (k : Int) < (l.length : Int) := by omega
    have HS := Hid.mk' (copyR_set l k hlt)
    have hol := hops _ (List.getElem_mem hlt)
    have hpl := hSo.1
    generalize l[k] = p at *
    clear hc
    go_wp2_with fail
    refine (toRec p.1 p.2.1 pa pl pc p.2.2 _ hSo (by omega)).mono ?_
    rintro e w2 ⟨g2, rfl, hO2, hb2⟩
    have hOR := hO.below hb2
    have hB2 := hB.trans (hb2.mono hB.size)
    have hkl : k < (copyR l k).length := by rw [copyR_length l k hk]; exact hlt
    have hV2 := (ownV_of hO2).mono (base' := w.heap.size) hB.size
    have hg2 := hO2.lt
    have R := hOR.put k hkl p (.slice (some ⟨g2, 0, none⟩) pl pl) hpk hV2 (fun j hj hb => by
     have e1 : g2 = j := by simpa [Value.ownBlock] using hj
     have := (hO.lt j hb).2
     omega)
    rw [HS.out] at R
    have HR := Hid.mk' R
    obtain ⟨d0, d1, d2⟩ := hOR.at k hkl
    have f0 := hOR.frozen (k * 3)
    have f1 := hOR.frozen (k * 3 + 1)
    have f2 := hOR.frozen (k * 3 + 2)
    generalize (copyR l k)[k].1 = z0 at *
    generalize (copyR l k)[k].2.1 = z1 at *
    generalize hs[k]'(by have := hO.len; omega) = z2 at *
    have hsz2 := hB2.size
    clear R hO hOR hO2 hV2 hB hb2 c0 c1 c2 hSo
    go_wp2_with fail
    go_roundw
    case rel => exact ⟨k + 1, _, by omega, by go_num, HR.out.1, hB2.trans (below_grown HR.out.2 (Nat.le_refl _) hsz2)⟩
    case measure => simp [intOf]; omega
  · have e : k = l.length := by omega
    subst e
    rw [copyR_all] at hO
    go_wp2_with fail
    go_ret
    exact ⟨_, _, rfl, hO, hB⟩
def rsz (r : Rc) : Nat := r.2.2.length + sumO r.2.2
def sumR (l : List Rc) : Nat := (l.map rsz).sum
theorem sumR_take (l : List Rc) (k : Nat) (h : k < l.length) : sumR (l.take (k + 1)) = sumR (l.take k) + rsz l[k] := by
 unfold sumR
 rw [List.take_succ_eq_append_getElem h, List.map_append, List.sum_append]; simp
theorem sumR_le (l : List Rc) (k : Nat) : sumR (l.take k) ≤ sumR l := by
 conv => rhs; rw [← List.take_append_drop k l]
 unfold sumR
 rw [List.map_append, List.sum_append]; omega
set_option maxRecDepth 100000 in
set_option maxHeartbeats 2000000 in
theorem szRecS (a : Option Addr) (len cap : Nat) (l : List Rc) (L : Nat) (w : World) (h : SlR w a len l) (hL : L ≤ 1099511627776) :
 Calls Tryz.prog 79 #[.slice a len cap, .int .i64 (L : Int)] w fun e w' => e = .returned (.int .i64 (pairs.szR L (l.length + sumR l))) ∧ Below w.heap.size w w' := by
 obtain ⟨hl, hm, hsm, hc⟩ := id h
 subst hl
 unfold maxLen at hm
 by_cases hneg : L < l.length
 · rw [pairs.szR_neg (by omega)]
   have h1 : (L : Int) - (l.length : Int) < 0 := by omega
   go_enter Tryz.func79, Tryz.ntmps79
   go_wp2
   go_ret
   exact ⟨rfl, Below.refl _ _⟩
 · have h1 : ¬ (L : Int) - (l.length : Int) < 0 := by omega
   go_enter Tryz.func79, Tryz.ntmps79
   go_wp2_with fail
   go_loopw [1, 5] (fun lv i wr => ∃ k m : Nat, k ≤ l.length ∧ i = .int .i64 (k : Int) ∧ lv = .int .i64 (m : Int) ∧ m + (l.length + sumR (l.take k)) = L ∧ Below w.heap.size w wr) (fun _ i _ => l.length - (intOf i).toNat)
   case atStart => exact ⟨0, L - l.length, Nat.zero_le _, rfl, by go_num, by simp [sumR]; omega, Below.refl _ _⟩
   case round =>
    obtain ⟨k, m, hk, rfl, rfl, hmL, hB⟩ := hrel
    by_cases hlt : k < l.length
    · obtain ⟨b, off, ha, _⟩ := hc (by omega)
      subst ha
      obtain ⟨c0, c1, pa, pl, pc, c2, hSo, _⟩ := (h.at k hlt).below hB
      have hst := sumR_take l k hlt
      have hle := sumR_le l (k + 1)
      have hi1 : (k : Int) < (l.length : Int) := by omega
      have hmB : m ≤ 1099511627776 := by omega
      have HML := Hid.mk' hmL
      have HST := Hid.mk' hst
      have HLE := Hid.mk' hle
      generalize l[k] = p at *
      clear hc hsm hmL hst hle
      have hcall : Calls Tryz.prog 118 #[.agg #[.int .i64 p.1, .int .i64 p.2.1, .slice pa pl pc], .int .i64 (m : Int)] wr fun e w' => e = .returned (.int .i64 (pairs.szR m (rsz p))) ∧ Below wr.heap.size wr w' := szRec p.1 p.2.1 pa pl pc p.2.2 m wr hSo hmB
      by_cases hover : m < rsz p
      · rw [pairs.szR_neg hover] at hcall
        have HC := Hid.mk' hcall
        clear hcall
        go_wp2_with fail
        refine HC.out.mono ?_
        rintro e w2 ⟨rfl, hB2⟩
        go_wp2_with fail
        go_ret
        have e1 := HML.out
        have e2 := HST.out
        have e3 := HLE.out
        rw [pairs.szR_neg (by omega)]
        exact ⟨rfl, hB.trans (hB2.mono hB.size)⟩
      · rw [pairs.szR_pos (by omega), show (m : Int) - (rsz p : Int) = ((m - rsz p : Nat) : Int) by omega] at hcall
        have HC := Hid.mk' hcall
        obtain ⟨m2, hm2⟩ : ∃ m2, m - rsz p = m2 := ⟨_, rfl⟩
        rw [hm2] at HC
        have HM2 := Hid.mk' hm2
        have hm2b : m2 ≤ 1099511627776 := by omega
        clear hcall hm2
        go_wp2_with fail
        refine HC.out.mono ?_
        rintro e w2 ⟨rfl, hB2⟩
        go_wp2_with fail
        go_roundw
        case rel => exact ⟨k + 1, m2, by omega, by go_num, rfl, by have e1 := HML.out; have e2 := HST.out; have e3 := HM2.out; omega, hB.trans (hB2.mono hB.size)⟩
        case measure => simp [intOf]; omega
    · have e : k = l.length := by omega
      subst e
      rw [List.take_length] at hmL
      go_wp2_with fail
      go_ret
      rw [pairs.szR_pos (by omega), show (L : Int) - ((l.length + sumR l : Nat) : Int) = (m : Int) by omega]
      exact ⟨rfl, hB⟩
end recs
namespace recs
open Go Go.RowKit base pairs ords
theorem replayGo_tame : ∀ (l : List Rc) (k : Nat) (s t : St), Tame k s → replayGo s l = some t → Tame (k + l.length) t
 | [], k, s, t, h, e => by cases e; exact h
 | r :: l, k, s, t, h, e => by
  rw [replayGo] at e
  split at e
  · cases e
  · next u hu =>
    have := replayGo_tame l (k + 1) u t (h.step hu) e
    rw [List.length_cons, Nat.add_comm l.length 1, ← Nat.add_assoc]
    exact this
theorem cntR_le8 (l : List Rc) (h : ∀ r ∈ l, recOk r = true) : cntR l ≤ 26 * l.length := by
 induction l with
 | nil => simp [cntR]
 | cons x l ih =>
  rw [cntR_cons, List.length_cons]
  have h1 := ih fun r hr => h r (List.mem_cons_of_mem _ hr)
  have h2 : x.2.2.length ≤ 8 := by
   rcases ((recOk_iff x).1 (h x List.mem_cons_self)).2 with ⟨_, h2⟩ | ⟨_, h2⟩
   · exact ((opsOk_iff _).1 h2).2.2
   · rw [h2]; simp
  omega
theorem replay_sizes (l : List Rc) : (resM (replay l)).length ≤ 60 ∧ (resH (replay l)).length ≤ l.length ∧ cntR (resH (replay l)) ≤ 26 * l.length := by
 cases hr : replay l with
 | none => simp [resM, resH, cntR]
 | some s =>
  have h := replayGo_tame l 0 _ s tame_start hr
  have h2 := cntR_le8 s.2.1 h.ok
  have h3 := h.held
  simp only [resM, resH]
  exact ⟨h.few, by omega, by omega⟩
theorem OwnR.plain {w : World} {base g n cap : Nat} {l : List Rc} {hs : List Value} (h : OwnR w base (.slice (some ⟨g, 0, none⟩) n cap) l hs) : PlainR w (some ⟨g, 0, none⟩) n := by
 intro b off e i hi pa pl pc hc
 obtain rfl := h.nlen
 simp only [Option.some.injEq, Addr.mk.injEq, and_true] at e
 obtain ⟨rfl, rfl⟩ := e
 have h1 := (h.at i hi).2.2
 rw [Nat.zero_add] at hc
 rw [hc] at h1
 have h2 := (h.ops i hi).shape
 rw [← Option.some.inj h1] at h2
 rcases h2 with ⟨h2, _⟩ | ⟨g2, c2, h2, _⟩
 · cases h2; exact .inl rfl
 · cases h2; exact .inr ⟨_, _, rfl⟩
section
variable {w0 w w' : World} {B1 B2 gw n cw gg cg : Nat} {vs vx vg : Value} {hss hsx hsg : List Value} {P G : List Pr} {R X H : List Rc}
end
end recs
namespace recs
open Go Go.RowKit base pairs ords helps help lay
def Few (l : List Rc) : Prop := ∀ r ∈ l, r.2.2.length ≤ 1099511627776 ∧ ∀ p ∈ r.2.2, p.2.1.size ≤ 1099511627776
abbrev aggSh (id sure : Int) (la : Option Addr) (ln lc : Nat) (ma : Option Addr) (mn mc : Nat) (ha : Option Addr) (hn hc : Nat) : Value := .agg #[.int .i64 id, .slice la ln lc, .int .i64 sure, .slice ma mn mc, .slice ha hn hc]
abbrev boxSh (id sure : Int) (la : Option Addr) (ln lc : Nat) (ma : Option Addr) (mn mc : Nat) (ha : Option Addr) (hn hc : Nat) : Obj := .cells #[.int .i64 id, .slice la ln lc, .int .i64 sure, .slice ma mn mc, .slice ha hn hc] 55
theorem shardOk_no1 {s : Shd} (h : ¬ (0 ≤ s.1 ∧ s.1 ≤ 7)) : shardOk s = false := by unfold shardOk; rw [decide_eq_false h]; rfl
theorem shardOk_no2 {s : Shd} (h : 300 < s.2.1.length) : shardOk s = false := by unfold shardOk; rw [decide_eq_false (p := s.2.1.length ≤ 300) (by omega)]; simp
theorem shardOk_no3 {s : Shd} (h : ¬ (0 ≤ s.2.2.1 ∧ s.2.2.1 ≤ (s.2.1.length : Int))) : shardOk s = false := by unfold shardOk; rw [decide_eq_false h]; simp
theorem shardOk_yes {s : Shd} (h1 : 0 ≤ s.1 ∧ s.1 ≤ 7) (h2 : s.2.1.length ≤ 300) (h3 : 0 ≤ s.2.2.1 ∧ s.2.2.1 ≤ (s.2.1.length : Int)) :
 shardOk s = ((replay s.2.1).isSome && decide (resM (replay s.2.1) = s.2.2.2.1) && decide (resH (replay s.2.1) = s.2.2.2.2) && decide (s.2.1.length + (resH (replay s.2.1)).length ≤ 300)) := by
 unfold shardOk
 rw [decide_eq_true h1, decide_eq_true h2, decide_eq_true h3]
 cases replay s.2.1 with
 | none => rfl
 | some t =>
  rw [Bool.eq_iff_iff]
  simp only [Bool.and_eq_true, decide_eq_true_iff, resM, resH, Option.isSome_some, true_and]
  exact ⟨fun ⟨⟨a, b⟩, c⟩ => ⟨⟨decide_eq_true a, decide_eq_true b⟩, decide_eq_true c⟩, fun ⟨⟨a, b⟩, c⟩ => ⟨⟨of_decide_eq_true a, of_decide_eq_true b⟩, of_decide_eq_true c⟩⟩
set_option maxRecDepth 100000 in
set_option maxHeartbeats 2000000 in
theorem spec_shardOk (la : Option Addr) (ln lc : Nat) (ma : Option Addr) (mn mc : Nat) (ha : Option Addr) (hn hc : Nat) (s : Shd) (w : World) (h : SeeSh w la ln lc ma mn mc ha hn hc s) (hf : Few s.2.1) :
 Calls Tryz.prog 19 #[aggSh s.1 s.2.2.1 la ln lc ma mn mc ha hn hc] w fun e w' => e = .returned (.bool (shardOk s)) ∧ Below w.heap.size w w' := by
 have hll := h.log.1
 have hmx := h.log.2.1
 unfold maxLen at hmx
 obtain ⟨W, hW⟩ : ∃ W, w.alloc (boxSh s.1 s.2.2.1 la ln lc ma mn mc ha hn hc) = W := ⟨_, rfl⟩
 have hB : Below w.heap.size w W := by rw [← hW]; exact (Below.refl _ _).alloc (Nat.le_refl _) _
 have hbx : BoxIn w.heap.size 55 [] (shVals s.1 s.2.2.1 la ln lc ma mn mc ha hn hc) [] W := by rw [← hW]; exact boxIn_new w _ _
 have HI1 := Hid.mk' (fun wx => spec_in s.1 0 7 wx)
 have HI2 := Hid.mk' (fun wx => spec_in s.2.2.1 0 ln wx)
 have HW := Hid.mk' hW
 have HHL := Hid.mk' h.held.1
 have hhm := h.held.2.1
 unfold maxLen at hhm
 have HLL := Hid.mk' hll
 generalize hR : shardOk s = R
 have c0 := hbx.cell 0 _ rfl
 have c1 := hbx.cell 1 _ rfl
 have c2 := hbx.cell 2 _ rfl
 simp only [List.length_nil, Nat.zero_add] at c0 c1 c2
 have hXl := hbx.lt
 by_cases h1 : 0 ≤ s.1 ∧ s.1 ≤ 7
 · rw [decide_eq_true h1] at HI1
   by_cases h2 : s.2.1.length ≤ 300
   · have hn2 : ¬ (300 : Int) < (ln : Int) := by omega
     by_cases h3 : 0 ≤ s.2.2.1 ∧ s.2.2.1 ≤ (s.2.1.length : Int)
     · rw [decide_eq_true (show 0 ≤ s.2.2.1 ∧ s.2.2.1 ≤ (ln : Int) by omega)] at HI2
       rw [shardOk_yes h1 h2 h3] at hR
       have HRP := Hid.mk' (spec_replay la ln lc s.2.1 W (h.log.below hB) (by omega) hf)
       have hlt : (resH (replay s.2.1)).length ≤ 300 := by have := (replay_sizes s.2.1).2.1; omega
       have hln : ln ≤ 300 := by omega
       generalize replay s.2.1 = t at *
       have HR := Hid.mk' hR
       have hS := h
       clear hR hW h h1 h2 h3 hll
       go_enter Tryz.func19, Tryz.ntmps19
       go_wp2_with fail
       refine (HI1.out _).mono ?_
       rintro e w1 ⟨rfl, rfl⟩
       go_wp2_with fail
       refine (HI2.out _).mono ?_
       rintro e w1 ⟨rfl, rfl⟩
       go_wp2_with fail
       rw [HW.out]
       refine HRP.out.mono ?_
       rintro e w2 ⟨g, np, cp, g2, c2', hs, rfl, hO, hOR, _, hb2⟩
       have hbx2 := hbx.below hb2
       have d1 := hbx2.cell 1 _ rfl
       have d3 := hbx2.cell 3 _ rfl
       have d4 := hbx2.cell 4 _ rfl
       simp only [List.length_nil, Nat.zero_add] at d1 d3 d4
       have hB2 := hB.trans (hb2.mono hB.size)
       have HSP := Hid.mk' (spec_samePairs (some ⟨g, 0, none⟩) ma np cp mn mc (resM t) s.2.2.2.1 w2 hO.sl (hS.map.below hB2))
       have HSR := Hid.mk' (fun wx (hx : Below w2.heap.size w2 wx) => spec_sameRecs (some ⟨g2, 0, none⟩) ha _ c2' hn hc (resH t) s.2.2.2.2 wx (hOR.sl.below hx) ((hS.held.below hB2).below hx))
       have hlh : (resH t).length ≤ maxLen := hOR.sl.2.1
       unfold maxLen at hlh
       clear HRP HI1 HI2 HW c0 c1 c2 hbx hO
       cases hts : t.isSome with
       | false =>
        have HR2 : Hid (R = false) := by show _ = _; rw [← HR.out, hts]; rfl
        clear HR HSP HSR
        go_wp2_with fail
        go_ret
        rw [HR2.out]
        exact ⟨rfl, hB2⟩
       | true =>
        by_cases e1 : resM t = s.2.2.2.1
        · rw [decide_eq_true e1] at HSP
          have hbd : ∀ n, Below w2.heap.size w2 (w2.drewN n) := fun n => below_drewN (Below.refl _ _) n
          by_cases e2 : resH t = s.2.2.2.2
          · rw [decide_eq_true e2] at HSR
            have HR2 : Hid (R = decide (s.2.1.length + (resH t).length ≤ 300)) := by show _ = _; rw [← HR.out, hts, decide_eq_true e1, decide_eq_true e2]; simp
            clear HR
            have hes : (resH t).length = hn := by rw [e2]; exact HHL.out
            have HES := Hid.mk' hes
            clear hes e1 e2
            go_wp2_with fail
            refine HSP.out.mono ?_
            rintro e w3 ⟨rfl, n3, rfl⟩
            have hbx3 := hbx2.below (hbd n3)
            have f1 := hbx3.cell 1 _ rfl
            have f4 := hbx3.cell 4 _ rfl
            simp only [List.length_nil, Nat.zero_add] at f1 f4
            go_wp2_with fail
            refine (HSR.out _ (hbd n3)).mono ?_
            rintro e w4 ⟨rfl, hb4⟩
            have hbx4 := hbx3.below hb4
            have k1 := hbx4.cell 1 _ rfl
            simp only [List.length_nil, Nat.zero_add] at k1
            have hB4 := hB2.trans ((hbd n3).mono hB2.size) |>.trans (hb4.mono (Nat.le_trans hB2.size (hbd n3).size))
            clear HSP HSR d1 d3 d4 f1 f4
            go_wp2_with fail
            go_ret
            rw [HR2.out]
            exact ⟨ret_bool (by rw [Bool.eq_iff_iff, decide_eq_true_iff, decide_eq_true_iff]; have := HES.out; have := HLL.out; omega), hB4⟩
          · rw [decide_eq_false e2] at HSR
            have HR2 : Hid (R = false) := by show _ = _; rw [← HR.out, decide_eq_false e2]; simp
            clear HR
            go_wp2_with fail
            refine HSP.out.mono ?_
            rintro e w3 ⟨rfl, n3, rfl⟩
            have hbx3 := hbx2.below (hbd n3)
            have f1 := hbx3.cell 1 _ rfl
            have f4 := hbx3.cell 4 _ rfl
            simp only [List.length_nil, Nat.zero_add] at f1 f4
            go_wp2_with fail
            refine (HSR.out _ (hbd n3)).mono ?_
            rintro e w4 ⟨rfl, hb4⟩
            have hB4 := hB2.trans ((hbd n3).mono hB2.size) |>.trans (hb4.mono (Nat.le_trans hB2.size (hbd n3).size))
            clear HSP HSR d1 d3 d4 f1 f4
            go_wp2_with fail
            go_ret
            rw [HR2.out]
            exact ⟨rfl, hB4⟩
        · rw [decide_eq_false e1] at HSP
          have HR2 : Hid (R = false) := by show _ = _; rw [← HR.out, decide_eq_false e1]; simp
          clear HR
          go_wp2_with fail
          refine HSP.out.mono ?_
          rintro e w3 ⟨rfl, n3, rfl⟩
          have hB4 := hB2.trans ((below_drewN (Below.refl _ _) n3 : Below w2.heap.size w2 (w2.drewN n3)).mono hB2.size)
          clear HSP HSR d1 d3 d4
          go_wp2_with fail
          go_ret
          rw [HR2.out]
          exact ⟨rfl, hB4⟩
     · rw [decide_eq_false (show ¬ (0 ≤ s.2.2.1 ∧ s.2.2.1 ≤ (ln : Int)) by omega)] at HI2
       have HR2 : Hid (R = false) := by show _ = _; rw [← hR]; exact shardOk_no3 h3
       clear hR hW h h1 h2 h3 hll
       go_enter Tryz.func19, Tryz.ntmps19
       go_wp2_with fail
       refine (HI1.out _).mono ?_
       rintro e w1 ⟨rfl, rfl⟩
       go_wp2_with fail
       refine (HI2.out _).mono ?_
       rintro e w1 ⟨rfl, rfl⟩
       go_wp2_with fail
       go_ret
       rw [HR2.out, HW.out]
       exact ⟨rfl, hB⟩
   · have hn2 : (300 : Int) < (ln : Int) := by omega
     have HR2 : Hid (R = false) := by show _ = _; rw [← hR]; exact shardOk_no2 (by omega)
     clear hR hW h h1 h2 HI2 hll
     go_enter Tryz.func19, Tryz.ntmps19
     go_wp2_with fail
     refine (HI1.out _).mono ?_
     rintro e w1 ⟨rfl, rfl⟩
     go_wp2_with fail
     go_ret
     rw [HR2.out, HW.out]
     exact ⟨rfl, hB⟩
 · rw [decide_eq_false h1] at HI1
   have HR2 : Hid (R = false) := by show _ = _; rw [← hR]; exact shardOk_no1 h1
   clear hR hW h h1 HI2 hll
   go_enter Tryz.func19, Tryz.ntmps19
   go_wp2_with fail
   refine (HI1.out _).mono ?_
   rintro e w1 ⟨rfl, rfl⟩
   go_wp2_with fail
   go_ret
   rw [HR2.out, HW.out]
   exact ⟨rfl, hB⟩
end recs
namespace recs
open Go Go.RowKit base pairs ords
end recs
namespace lay
open Go Go.RowKit base pairs ords recs
theorem BoxIn.set5 {X : Nat} {T : TypeId} {pre post : List Value} {a0 a1 a2 a3 a4 : Value} {w : World} (h : BoxIn X T pre [a0, a1, a2, a3, a4] post w) (b0 b1 b2 b3 b4 : Value) :
 BoxIn X T pre [b0, b1, b2, b3, b4] post (((((w.setCell ⟨X, pre.length, none⟩ b0).setCell ⟨X, pre.length + 1, none⟩ b1).setCell ⟨X, pre.length + 2, none⟩ b2).setCell ⟨X, pre.length + 3, none⟩ b3).setCell ⟨X, pre.length + 4, none⟩ b4) ∧
 w.grownBy (((((w.setCell ⟨X, pre.length, none⟩ b0).setCell ⟨X, pre.length + 1, none⟩ b1).setCell ⟨X, pre.length + 2, none⟩ b2).setCell ⟨X, pre.length + 3, none⟩ b3).setCell ⟨X, pre.length + 4, none⟩ b4) (some X) := by
 have h0 := h.set 0 (by simp) b0
 have h1 := h0.1.set 1 (by simp) b1
 have h2 := h1.1.set 2 (by simp) b2
 have h3 := h2.1.set 3 (by simp) b3
 have h4 := h3.1.set 4 (by simp) b4
 exact ⟨h4.1, grownBy_trans (grownBy_trans (grownBy_trans (grownBy_trans h0.2 h1.2) h2.2) h3.2) h4.2⟩
end lay
namespace recs
open Go Go.RowKit base pairs ords helps help lay
theorem OwnR.notPair {w : World} {base b2 g n cap : Nat} {v : Value} {l : List Rc} {hs : List Value} {P : List Pr} (h : OwnR w base v l hs) (hp : OwnP w b2 g n cap P) : ¬ BlkR v hs g := by
 rintro (e | ⟨y, hy, e⟩)
 · exact recRow_ne h.row hp.2.2 e rfl (by decide)
 · obtain ⟨i, hi, rfl⟩ := List.getElem_of_mem hy
   exact recRow_ne (h.ops i (by have := h.len; omega)).2 hp.2.2 e rfl (by decide)
theorem ownSh_of {w : World} {B C gl ln cl gm mn cm gh hn ch : Nat} {s : Shd} {hl hh : List Value} (hid : (Lit.int .i64 s.1).wf = true) (hsu : (Lit.int .i64 s.2.2.1).wf = true)
 (h1 : OwnR w B (.slice (some ⟨gl, 0, none⟩) ln cl) s.2.1 hl) (h2 : OwnP w B gm mn cm s.2.2.2.1) (h3 : OwnR w B (.slice (some ⟨gh, 0, none⟩) hn ch) s.2.2.2.2 hh) (hlo : ∀ k, BlkR (.slice (some ⟨gl, 0, none⟩) ln cl) hl k → k < C) (hhi : ∀ k, BlkR (.slice (some ⟨gh, 0, none⟩) hn ch) hh k → C ≤ k) :
 ∃ F, OwnSh w (some ⟨gl, 0, none⟩) ln cl (some ⟨gm, 0, none⟩) mn cm (some ⟨gh, 0, none⟩) hn ch s F ∧ ∀ k ∈ F, B ≤ k := by
 have o1 := h1.mono (base' := 0) (Nat.zero_le _)
 have o3 := h3.mono (base' := 0) (Nat.zero_le _)
 have d1 := lay.recsR.ownNodup (lay.recs_own.2 ⟨hl, o1, rfl⟩)
 have d3 := lay.recsR.ownNodup (lay.recs_own.2 ⟨hh, o3, rfl⟩)
 refine ⟨_, ⟨hid, hsu, ⟨hl, o1, hh, o3, rfl⟩, ownPV_of h2, ?_⟩, fun k hk => ?_⟩
 · refine nodup_mk d1 (nodup_mk (by simp [Value.ownBlock]) d3 (fun k hk hk2 => ?_)) (fun k hk hk2 => ?_)
   · have : k = gm := by simpa [Value.ownBlock] using hk
     subst this
     exact h3.notPair h2 (lay.mem_blkR.1 hk2)
   · have hk := lay.mem_blkR.1 hk
     rcases List.mem_append.1 hk2 with e | e
     · have : k = gm := by simpa [Value.ownBlock] using e
       subst this
       exact h1.notPair h2 hk
     · have := hlo k hk
       have := hhi k (lay.mem_blkR.1 e)
       omega
 · rcases List.mem_append.1 hk with e | e
   · exact (h1.lt k (lay.mem_blkR.1 e)).1
   · rcases List.mem_append.1 e with e | e
     · have : k = gm := by simpa [Value.ownBlock] using e
       subst this
       exact h2.lt.1
     · exact (h3.lt k (lay.mem_blkR.1 e)).1
end recs
namespace recs
open Go Go.RowKit base pairs ords helps help lay
def szSh (s : Shd) : Nat := (s.2.1.length + sumR s.2.1) + (s.2.2.2.1.length + sumP s.2.2.2.1) + (s.2.2.2.2.length + sumR s.2.2.2.2)
def cntS (s : Shd) : Nat := cntR s.2.1 + 2 * s.2.2.2.1.length + cntR s.2.2.2.2
theorem rsz_in (l : List Rc) (r : Rc) (h : r ∈ l) : rsz r ≤ sumR l := by
 induction l with
 | nil => cases h
 | cons x l ih =>
  have e : sumR (x :: l) = rsz x + sumR l := by simp [sumR]
  rcases List.mem_cons.1 h with rfl | h
  · omega
  · have := ih h; omega
theorem few_of {l : List Rc} {N : Nat} (h : sumR l ≤ N) (hN : N ≤ 1099511627776) : Few l := fun r hr => by
 have h1 := rsz_in l r hr
 unfold rsz at h1
 refine ⟨by omega, fun p hp => ?_⟩
 have h2 := osz_le r.2.2 p hp
 unfold osz at h2
 omega
section
variable {w w' : World} {la ma ha : Option Addr} {ln lc mn mc hn hc : Nat} {s : Shd} {F : List Nat}
theorem SeeSh.lens (h : SeeSh w la ln lc ma mn mc ha hn hc s) : s.2.1.length = ln ∧ s.2.2.2.1.length = mn ∧ s.2.2.2.2.length = hn := ⟨h.log.1, h.map.1, h.held.1⟩
end
set_option maxRecDepth 100000 in
set_option maxHeartbeats 2000000 in
theorem szShard (la : Option Addr) (ln lc : Nat) (ma : Option Addr) (mn mc : Nat) (ha : Option Addr) (hn hc : Nat) (s : Shd) (L : Nat) (w : World) (h : SeeSh w la ln lc ma mn mc ha hn hc s) (hL : L ≤ 1099511627776) :
 Calls Tryz.prog 40 #[aggSh s.1 s.2.2.1 la ln lc ma mn mc ha hn hc, .int .i64 (L : Int)] w fun e w' => e = .returned (.int .i64 (pairs.szR L (szSh s))) ∧ Below w.heap.size w w' := by
 obtain ⟨W, hW⟩ : ∃ W, w.alloc (.cells #[.int .i64 s.1, .slice la ln lc, .int .i64 s.2.2.1, .slice ma mn mc, .slice ha hn hc] 84) = W := ⟨_, rfl⟩
 have hB : Below w.heap.size w W := by rw [← hW]; exact (Below.refl _ _).alloc (Nat.le_refl _) _
 have hbx : BoxIn w.heap.size 84 [] (shVals s.1 s.2.2.1 la ln lc ma mn mc ha hn hc) [] W := by rw [← hW]; exact boxIn_new w _ _
 have HW := Hid.mk' hW
 have c1 := hbx.cell 1 _ rfl
 simp only [List.length_nil, Nat.zero_add] at c1
 rw [← hW] at c1
 clear hW
 obtain ⟨A, hA⟩ : ∃ A, A = s.2.1.length + sumR s.2.1 := ⟨_, rfl⟩
 obtain ⟨Bq, hBq⟩ : ∃ Bq, Bq = s.2.2.2.1.length + sumP s.2.2.2.1 := ⟨_, rfl⟩
 obtain ⟨Cq, hCq⟩ : ∃ Cq, Cq = s.2.2.2.2.length + sumR s.2.2.2.2 := ⟨_, rfl⟩
 have HS : Hid (szSh s = A + Bq + Cq) := by show _ = _; unfold szSh; rw [hA, hBq, hCq]
 have H1 := Hid.mk' (szRecS la ln lc s.2.1 L W (h.log.below hB) hL)
 have H2 := Hid.mk' (fun (L2 : Nat) (hL2 : L2 ≤ 1099511627776) wx (hx : Below w.heap.size w wx) => szPairS ma mn mc s.2.2.2.1 L2 wx (h.map.below hx) hL2)
 have H3 := Hid.mk' (fun (L2 : Nat) (hL2 : L2 ≤ 1099511627776) wx (hx : Below w.heap.size w wx) => szRecS ha hn hc s.2.2.2.2 L2 wx (h.held.below hx) hL2)
 rw [← hA] at H1
 rw [← hBq] at H2
 rw [← hCq] at H3
 clear hA hBq hCq h
 by_cases g1 : A ≤ L
 · obtain ⟨L1, hL1⟩ : ∃ L1 : Nat, (L : Int) - (A : Int) = (L1 : Int) := ⟨L - A, by omega⟩
   rw [pairs.szR_pos g1, hL1] at H1
   have hn1 : ¬ (L1 : Int) < 0 := by omega
   by_cases g2 : Bq ≤ L1
   · obtain ⟨L2, hL2⟩ : ∃ L2 : Nat, (L1 : Int) - (Bq : Int) = (L2 : Int) := ⟨L1 - Bq, by omega⟩
     have H2' := Hid.mk' (H2.out L1 (by omega))
     rw [pairs.szR_pos g2, hL2] at H2'
     have hn2 : ¬ (L2 : Int) < 0 := by omega
     by_cases g3 : Cq ≤ L2
     · obtain ⟨L3, hL3⟩ : ∃ L3 : Nat, (L2 : Int) - (Cq : Int) = (L3 : Int) := ⟨L2 - Cq, by omega⟩
       have H3' := Hid.mk' (H3.out L2 (by omega))
       rw [pairs.szR_pos g3, hL3] at H3'
       have hn3 : ¬ (L3 : Int) < 0 := by omega
       have HV : Hid (pairs.szR L (szSh s) = (L3 : Int)) := by show _ = _; rw [HS.out, pairs.szR_pos (by omega)]; omega
       clear H2 H3 hL1 hL2 hL3 g1 g2 g3
       go_enter Tryz.func40, Tryz.ntmps40
       go_wp2_with fail
       rw [HW.out]
       refine H1.out.mono ?_
       rintro e w1 ⟨rfl, hb1⟩
       have hB1 := hB.trans (hb1.mono hB.size)
       have hbx1 := hbx.below hb1
       have d3 := hbx1.cell 3 _ rfl
       simp only [List.length_nil, Nat.zero_add] at d3
       clear c1 H1
       go_wp2_with fail
       refine (H2'.out _ hB1).mono ?_
       rintro e w2 ⟨rfl, hb2⟩
       have hB2 := hB1.trans (hb2.mono hB1.size)
       have hbx2 := hbx1.below hb2
       have d4 := hbx2.cell 4 _ rfl
       simp only [List.length_nil, Nat.zero_add] at d4
       clear d3 H2'
       go_wp2_with fail
       refine (H3'.out _ hB2).mono ?_
       rintro e w3 ⟨rfl, hb3⟩
       have hB3 := hB2.trans (hb3.mono hB2.size)
       clear d4 H3'
       go_wp2_with fail
       go_ret
       rw [HV.out]
       exact ⟨rfl, hB3⟩
     · have H3' := Hid.mk' (H3.out L2 (by omega))
       rw [pairs.szR_neg (by omega)] at H3'
       have HV : Hid (pairs.szR L (szSh s) = -1) := by show _ = _; rw [HS.out, pairs.szR_neg (by omega)]
       clear H2 H3 hL1 hL2 g1 g2 g3
       go_enter Tryz.func40, Tryz.ntmps40
       go_wp2_with fail
       rw [HW.out]
       refine H1.out.mono ?_
       rintro e w1 ⟨rfl, hb1⟩
       have hB1 := hB.trans (hb1.mono hB.size)
       have hbx1 := hbx.below hb1
       have d3 := hbx1.cell 3 _ rfl
       simp only [List.length_nil, Nat.zero_add] at d3
       clear c1 H1
       go_wp2_with fail
       refine (H2'.out _ hB1).mono ?_
       rintro e w2 ⟨rfl, hb2⟩
       have hB2 := hB1.trans (hb2.mono hB1.size)
       have hbx2 := hbx1.below hb2
       have d4 := hbx2.cell 4 _ rfl
       simp only [List.length_nil, Nat.zero_add] at d4
       clear d3 H2'
       go_wp2_with fail
       refine (H3'.out _ hB2).mono ?_
       rintro e w3 ⟨rfl, hb3⟩
       have hB3 := hB2.trans (hb3.mono hB2.size)
       clear d4 H3'
       go_wp2_with fail
       go_ret
       rw [HV.out]
       exact ⟨rfl, hB3⟩
   · have H2' := Hid.mk' (H2.out L1 (by omega))
     rw [pairs.szR_neg (by omega)] at H2'
     have HV : Hid (pairs.szR L (szSh s) = -1) := by show _ = _; rw [HS.out, pairs.szR_neg (by omega)]
     clear H2 H3 hL1 g1 g2
     go_enter Tryz.func40, Tryz.ntmps40
     go_wp2_with fail
     rw [HW.out]
     refine H1.out.mono ?_
     rintro e w1 ⟨rfl, hb1⟩
     have hB1 := hB.trans (hb1.mono hB.size)
     have hbx1 := hbx.below hb1
     have d3 := hbx1.cell 3 _ rfl
     simp only [List.length_nil, Nat.zero_add] at d3
     clear c1 H1
     go_wp2_with fail
     refine (H2'.out _ hB1).mono ?_
     rintro e w2 ⟨rfl, hb2⟩
     have hB2 := hB1.trans (hb2.mono hB1.size)
     clear d3 H2'
     go_wp2_with fail
     go_ret
     rw [HV.out]
     exact ⟨rfl, hB2⟩
 · rw [pairs.szR_neg (by omega)] at H1
   have HV : Hid (pairs.szR L (szSh s) = -1) := by show _ = _; rw [HS.out, pairs.szR_neg (by omega)]
   clear H2 H3 g1
   go_enter Tryz.func40, Tryz.ntmps40
   go_wp2_with fail
   rw [HW.out]
   refine H1.out.mono ?_
   rintro e w1 ⟨rfl, hb1⟩
   have hB1 := hB.trans (hb1.mono hB.size)
   clear c1 H1
   go_wp2_with fail
   go_ret
   rw [HV.out]
   exact ⟨rfl, hB1⟩
theorem eqPairsS (a a2 : Option Addr) (len cap len2 cap2 : Nat) (l : List Pr) (w : World) (h : SlP w a len l) (h2 : SlP w a2 len2 l) :
 Calls Tryz.prog 107 #[.slice a len cap, .slice a2 len2 cap2] w fun e w' => e = .returned (.bool true) ∧ Below w.heap.size w w' :=
 (eqPairS a a2 len cap len2 cap2 l l w h h2).mono fun e w' hp => ⟨by rw [hp.1]; simp, hp.2⟩
set_option maxRecDepth 100000 in
set_option maxHeartbeats 2000000 in
theorem eqShardT (la : Option Addr) (ln lc : Nat) (ma : Option Addr) (mn mc : Nat) (ha : Option Addr) (hn hc : Nat) (la2 : Option Addr) (ln2 lc2 : Nat) (ma2 : Option Addr) (mn2 mc2 : Nat) (ha2 : Option Addr) (hn2 hc2 : Nat) (s : Shd) (w : World) (h : SeeSh w la ln lc ma mn mc ha hn hc s) (h2 : SeeSh w la2 ln2 lc2 ma2 mn2 mc2 ha2 hn2 hc2 s) :
 Calls Tryz.prog 67 #[aggSh s.1 s.2.2.1 la ln lc ma mn mc ha hn hc, aggSh s.1 s.2.2.1 la2 ln2 lc2 ma2 mn2 mc2 ha2 hn2 hc2] w fun e w' => e = .returned (.bool true) ∧ Below w.heap.size w w' := by
 obtain ⟨l1, l2, l3⟩ := SeeSh.lens h
 obtain ⟨k1, k2, k3⟩ := SeeSh.lens h2
 obtain rfl : ln2 = ln := by omega
 obtain rfl : mn2 = mn := by omega
 obtain rfl : hn2 = hn := by omega
 obtain ⟨W, hW⟩ : ∃ W, (w.alloc (boxSh s.1 s.2.2.1 la ln2 lc ma mn2 mc ha hn2 hc)).alloc (boxSh s.1 s.2.2.1 la2 ln2 lc2 ma2 mn2 mc2 ha2 hn2 hc2) = W := ⟨_, rfl⟩
 have hba : Below w.heap.size w (w.alloc (boxSh s.1 s.2.2.1 la ln2 lc ma mn2 mc ha hn2 hc)) := (Below.refl _ _).alloc (Nat.le_refl _) _
 have hB : Below w.heap.size w W := by rw [← hW]; exact hba.alloc hba.size _
 have hT : BoxIn w.heap.size 55 [] (shVals s.1 s.2.2.1 la ln2 lc ma mn2 mc ha hn2 hc) [] W := by rw [← hW]; exact (boxIn_new w _ _).below ((Below.refl _ _).alloc (Nat.le_refl _) _)
 have hR : BoxIn (w.heap.size + 1) 55 [] (shVals s.1 s.2.2.1 la2 ln2 lc2 ma2 mn2 mc2 ha2 hn2 hc2) [] W := by
  rw [← hW]
  have := boxIn_new (w.alloc (boxSh s.1 s.2.2.1 la ln2 lc ma mn2 mc ha hn2 hc)) (shVals s.1 s.2.2.1 la2 ln2 lc2 ma2 mn2 mc2 ha2 hn2 hc2) 55
  rwa [show (w.alloc (boxSh s.1 s.2.2.1 la ln2 lc ma mn2 mc ha hn2 hc)).heap.size = w.heap.size + 1 by simp] at this
 have HW := Hid.mk' hW
 have a0 := hT.cell 0 _ rfl
 have a1 := hT.cell 1 _ rfl
 have b0 := hR.cell 0 _ rfl
 have b1 := hR.cell 1 _ rfl
 simp only [List.length_nil, Nat.zero_add] at a0 a1 b0 b1
 rw [← hW] at a0 a1 b0 b1
 have f1 : (s.1 == s.1) = true := by simp
 have f2 : (s.2.2.1 == s.2.2.1) = true := by simp
 have H1 := Hid.mk' (eqRecsT la la2 ln2 lc lc2 s.2.1 W (h.log.below hB) (h2.log.below hB))
 have H2 := Hid.mk' (fun wx (hx : Below w.heap.size w wx) => eqPairsS ma ma2 mn2 mc mn2 mc2 s.2.2.2.1 wx (h.map.below hx) (h2.map.below hx))
 have H3 := Hid.mk' (fun wx (hx : Below w.heap.size w wx) => eqRecsT ha ha2 hn2 hc hc2 s.2.2.2.2 wx (h.held.below hx) (h2.held.below hx))
 clear hW l1 l2 l3 k1 k2 k3 h h2
 go_enter Tryz.func67, Tryz.ntmps67
 go_wp2_with fail
 rw [HW.out]
 refine H1.out.mono ?_
 rintro e w1 ⟨rfl, hb1⟩
 have hB1 := hB.trans (hb1.mono hB.size)
 have hT1 := hT.below hb1
 have hR1 := hR.below hb1
 have p2 := hT1.cell 2 _ rfl
 have p3 := hT1.cell 3 _ rfl
 have q2 := hR1.cell 2 _ rfl
 have q3 := hR1.cell 3 _ rfl
 simp only [List.length_nil, Nat.zero_add] at p2 p3 q2 q3
 clear a0 a1 b0 b1 H1 HW
 go_wp2_with fail
 refine (H2.out _ hB1).mono ?_
 rintro e w2 ⟨rfl, hb2⟩
 have hB2 := hB1.trans (hb2.mono hB1.size)
 have p4 := (hT1.below hb2).cell 4 _ rfl
 have q4 := (hR1.below hb2).cell 4 _ rfl
 simp only [List.length_nil, Nat.zero_add] at p4 q4
 clear p2 p3 q2 q3 H2
 go_wp2_with fail
 refine (H3.out _ hB2).mono ?_
 rintro e w3 ⟨rfl, hb3⟩
 have hB3 := hB2.trans (hb3.mono hB2.size)
 clear p4 q4 H3
 go_wp2_with fail
 go_ret
 exact ⟨rfl, hB3⟩
end recs
end Go.Proofs.YtijplooogplccaaGreat
