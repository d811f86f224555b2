/- The laws' own helpers on slices of strings: what each call does. The laws' own helpers on pairs: what each call does. The laws' marks on pairs, and pairs that are the same. Rows of pairs that a law made, kept from step to step; arguments that are pairs, opened. -/
import Derived.Test.YtdebbgodhpcijaaGreatDoorRows
import Derived.Test.YtdebbgodhpcijaaGreatDoorKitA
import Derived.Laws.BytesArg
import Derived.Deep.RegionWith
import Derived.Test.YtdebbgodhpcijaaGreatDoorPairQ
import Derived.Deep.SlicePairs
import Derived.ChangeArms
namespace Go.Proofs.YtdebbgodhpcijaaGreatDoor.helps
open Go.RowKit Go.Proofs.YtdebbgodhpcijaaGreatDoor.base Go.Proofs.YtdebbgodhpcijaaGreatDoor.help
set_option linter.unusedVariables false
set_option linter.unusedSimpArgs false

def copyS (ss : List ByteArray) (k : Nat) : List ByteArray := ss.take k ++ List.replicate (ss.length - k) ⟨#[]⟩
theorem copyS_length (ss : List ByteArray) (k : Nat) (h : k ≤ ss.length) : (copyS ss k).length = ss.length := by simp [copyS]; omega
theorem copyS_zero (ss : List ByteArray) : copyS ss 0 = List.replicate ss.length ⟨#[]⟩ := by simp [copyS]
theorem copyS_all (ss : List ByteArray) : copyS ss ss.length = ss := by simp [copyS]
theorem copyS_small (ss : List ByteArray) (k : Nat) (h : ∀ s ∈ ss, s.size ≤ maxLen) : ∀ s ∈ copyS ss k, s.size ≤ maxLen := by
  intro s hs
  rcases List.mem_append.1 hs with hs | hs
  · exact h s (List.mem_of_mem_take hs)
  · obtain rfl := (List.mem_replicate.1 hs).2; exact Nat.zero_le _
theorem copyS_set (ss : List ByteArray) (k : Nat) (h : k < ss.length) : (copyS ss k).set k ss[k] = copyS ss (k + 1) := by
  apply List.ext_getElem?
  intro j
  simp only [copyS, List.getElem?_set, List.getElem?_append, List.length_append, List.length_take, List.length_replicate, List.getElem?_take, List.getElem?_replicate]
  have e : min k ss.length = k := by omega
  have e1 : min (k + 1) ss.length = k + 1 := by omega
  rw [e, e1]
  by_cases hj : j = k
  · subst hj; simp [h]; omega
  · by_cases h1 : j < k
    · simp [h1, show ¬ k = j by omega, show j < k + 1 by omega]
    · simp [h1, show ¬ k = j by omega, show ¬ j < k + 1 by omega, show (j - k < ss.length - k ↔ j - (k + 1) < ss.length - (k + 1)) by omega]
/-- the decimal digits -/
def dch (k : Nat) : UInt8 := UInt8.ofNat (48 + k % 10)
theorem dch_val (k : Nat) : 48 + (k : Int) % 10 = ((dch k).toNat : Int) := by unfold dch; rw [byte_of]; omega
theorem ba_cons (c : UInt8) (l : List UInt8) : (⟨#[c]⟩ : ByteArray) ++ ⟨l.toArray⟩ = ⟨(c :: l).toArray⟩ := by
  apply WideShapes.bytes_inj
  rw [ByteArray.data_append]
  simp
def dig : Nat → Nat → List UInt8
  | 0, _ => []
  | f + 1, k => if k = 0 then [] else dig f (k / 10) ++ [dch k]
def markBytes (k : Nat) : ByteArray := ⟨(109 :: dig 20 k).toArray⟩
theorem dig_zero (f : Nat) : dig f 0 = [] := by cases f <;> simp [dig]
theorem dig_length (f k : Nat) : (dig f k).length ≤ f := by
  induction f generalizing k with
  | zero => simp [dig]
  | succ f ih =>
    rw [dig]
    split
    · simp
    · have := ih (k / 10); simp; omega
theorem markBytes_size (k : Nat) : (markBytes k).size ≤ 21 := by
  have := dig_length 20 k
  show (109 :: dig 20 k).toArray.size ≤ 21
  simp; omega

def markS (k0 n : Nat) : List ByteArray := (List.range n).map (fun j => markBytes (k0 + j))
def markSTo (ss : List ByteArray) (k0 i : Nat) : List ByteArray := markS k0 i ++ ss.drop i
theorem markS_length (k0 n : Nat) : (markS k0 n).length = n := by simp [markS]
theorem markSTo_length (ss : List ByteArray) (k0 i : Nat) (h : i ≤ ss.length) : (markSTo ss k0 i).length = ss.length := by simp [markSTo, markS]; omega
theorem markSTo_zero (ss : List ByteArray) (k0 : Nat) : markSTo ss k0 0 = ss := by simp [markSTo, markS]
theorem markSTo_all (ss : List ByteArray) (k0 : Nat) : markSTo ss k0 ss.length = markS k0 ss.length := by simp [markSTo]
theorem markSTo_set (ss : List ByteArray) (k0 i : Nat) (h : i < ss.length) : (markSTo ss k0 i).set i (markBytes (k0 + i)) = markSTo ss k0 (i + 1) := by
  unfold markSTo markS
  rw [List.set_append_right _ _ (by simp)]
  simp only [List.length_map, List.length_range, Nat.sub_self, List.range_succ, List.map_append, List.map_cons, List.map_nil, List.append_assoc]
  congr 1
  rw [List.drop_eq_getElem_cons h]
  rfl
theorem mark_max (k : Nat) : (markBytes k).size ≤ maxLen := Nat.le_trans (markBytes_size k) (by decide)

end Go.Proofs.YtdebbgodhpcijaaGreatDoor.helps

namespace Go.Proofs.YtdebbgodhpcijaaGreatDoor.pairs
open Go Go.RowKit Go.Proofs.YtdebbgodhpcijaaGreatDoor.base Go.Proofs.YtdebbgodhpcijaaGreatDoor.helps
set_option linter.unusedVariables false
set_option linter.unusedSimpArgs false


def szR (L t : Nat) : Int := if t ≤ L then (L : Int) - (t : Int) else -1
theorem szR_neg {L t : Nat} (h : L < t) : szR L t = -1 := by unfold szR; rw [if_neg (by omega)]
theorem szR_pos {L t : Nat} (h : t ≤ L) : szR L t = (L : Int) - (t : Int) := by unfold szR; rw [if_pos h]
def psz (p : Pr) : Nat := p.1.size + p.2.size
def sumP (l : List Pr) : Nat := (l.map psz).sum
theorem sumP_take (l : List Pr) (k : Nat) (h : k < l.length) : sumP (l.take (k + 1)) = sumP (l.take k) + psz l[k] := by
  unfold sumP; rw [take_snocP l k h, List.map_append, List.sum_append]; simp
theorem sumP_le (l : List Pr) (k : Nat) : sumP (l.take k) ≤ sumP l := by
  have e : sumP l = sumP (l.take k) + sumP (l.drop k) := by
    unfold sumP; rw [← List.sum_append, ← List.map_append, List.take_append_drop]
  omega
theorem psz_le (l : List Pr) : ∀ p ∈ l, psz p ≤ sumP l := by
  induction l with
  | nil => intro s h; exact absurd h List.not_mem_nil
  | cons x l ih =>
    intro s h
    simp only [sumP, List.map_cons, List.sum_cons] at *
    rcases List.mem_cons.1 h with h | h
    · subst h; omega
    · have := ih s h; omega



def zeroP : Pr := (⟨#[]⟩, ⟨#[]⟩)
def copyP (l : List Pr) (k : Nat) : List Pr := l.take k ++ List.replicate (l.length - k) zeroP
theorem copyP_length (l : List Pr) (k : Nat) (h : k ≤ l.length) : (copyP l k).length = l.length := by simp [copyP]; omega
theorem copyP_zero (l : List Pr) : copyP l 0 = List.replicate l.length zeroP := by simp [copyP]
theorem copyP_all (l : List Pr) : copyP l l.length = l := by simp [copyP]
theorem copyP_small (l : List Pr) (k : Nat) (h : ∀ p ∈ l, small p) : ∀ p ∈ copyP l k, small p := by
  intro p hp
  rcases List.mem_append.1 hp with h1 | h1
  · exact h p (List.mem_of_mem_take h1)
  · obtain rfl := (List.mem_replicate.1 h1).2; exact ⟨Nat.zero_le _, Nat.zero_le _⟩
theorem copyP_set (l : List Pr) (k : Nat) (h : k < l.length) : (copyP l k).set k l[k] = copyP l (k + 1) := by
  unfold copyP
  rw [List.set_append_right _ _ (by simp; omega), take_snocP l k h, List.append_assoc]
  congr 1
  rw [List.length_take_of_le (by omega), Nat.sub_self, show l.length - k = l.length - (k + 1) + 1 by omega, List.replicate_succ]
  rfl
theorem pairVals_rep (n : Nat) : pairVals (List.replicate n zeroP) = (madeCells #[.string ⟨#[]⟩, .string ⟨#[]⟩] (n * 2)).toList := by
  have e1 : pairVals (List.replicate n zeroP) = List.replicate (n * 2) (.string ⟨#[]⟩) := by
    induction n with
    | zero => rfl
    | succ n ih => rw [List.replicate_succ, pairVals_cons, ih, show (n + 1) * 2 = n * 2 + 1 + 1 by omega, List.replicate_succ, List.replicate_succ]; rfl
  rw [e1]
  apply List.ext_getElem
  · simp [madeCells]
  · intro j h1 h2
    have hm : j % 2 = 0 ∨ j % 2 = 1 := by omega
    rcases hm with hm | hm <;> simp [madeCells, hm]



theorem take_eqP {l l2 : List Pr} {k : Nat} (h : l.take k = l2.take k) (h1 : k < l.length) (h2 : k < l2.length) (e : l[k] = l2[k]) : l.take (k + 1) = l2.take (k + 1) := by
  rw [take_snocP l k h1, take_snocP l2 k h2, h, e]

end Go.Proofs.YtdebbgodhpcijaaGreatDoor.pairs

namespace Go.Proofs.YtdebbgodhpcijaaGreatDoor.pairs
open Go Go.RowKit Go.Proofs.YtdebbgodhpcijaaGreatDoor.base Go.Proofs.YtdebbgodhpcijaaGreatDoor.helps
set_option linter.unusedVariables false
set_option linter.unusedSimpArgs false

def marksP (k0 n : Nat) : List Pr := (List.range n).map fun j => (markBytes (k0 + 2 * j), markBytes (k0 + 2 * j + 1))
def markPTo (l : List Pr) (k0 i : Nat) : List Pr := marksP k0 i ++ l.drop i
theorem marksP_length (k0 n : Nat) : (marksP k0 n).length = n := by simp [marksP]
theorem marksP_get (k0 n i : Nat) (h : i < n) : (marksP k0 n)[i]'(by rw [marksP_length]; exact h) = (markBytes (k0 + 2 * i), markBytes (k0 + 2 * i + 1)) := by simp [marksP]
theorem markPTo_length (l : List Pr) (k0 i : Nat) (h : i ≤ l.length) : (markPTo l k0 i).length = l.length := by simp [markPTo, marksP]; omega
theorem markPTo_zero (l : List Pr) (k0 : Nat) : markPTo l k0 0 = l := by simp [markPTo, marksP]
theorem markPTo_all (l : List Pr) (k0 : Nat) : markPTo l k0 l.length = marksP k0 l.length := by simp [markPTo]
theorem markPTo_set (l : List Pr) (k0 i : Nat) (h : i < l.length) : (markPTo l k0 i).set i (markBytes (k0 + 2 * i), markBytes (k0 + 2 * i + 1)) = markPTo l k0 (i + 1) := by
  unfold markPTo marksP
  rw [List.set_append_right _ _ (by simp)]
  simp only [List.length_map, List.length_range, Nat.sub_self, List.range_succ, List.map_append, List.map_cons, List.map_nil, List.append_assoc]
  congr 1
  rw [List.drop_eq_getElem_cons h]
  rfl



set_option maxRecDepth 100000 in
set_option maxHeartbeats 1000000 in
theorem samePairs (a a2 : Option Addr) (len cap len2 cap2 : Nat) (l l2 : List Pr) (w : World) (h : SlP w a len l) (h2 : SlP w a2 len2 l2) :
    Calls Tryz.prog 11 #[.slice a len cap, .slice a2 len2 cap2] w fun e w' => e = .returned (.bool (decide (l = l2))) ∧ ∃ n, w' = w.drewN n := by
  obtain ⟨hl, hm, _, hc⟩ := h
  obtain ⟨hl2, hm2, _, hc2⟩ := h2
  subst hl hl2
  unfold maxLen at hm hm2
  by_cases hne : l.length = l2.length
  · have hb : ((l.length : Int) == (l2.length : Int)) = true := by simp; omega
    go_enter Tryz.func11, Tryz.ntmps11
    go_wp2_with fail
    go_loopw [5] (fun i wr => ∃ k : Nat, k ≤ l.length ∧ i = .int .i64 k ∧ l.take k = l2.take k ∧ ∃ n, wr = w.drewN n) (fun i _ => l.length - (intOf i).toNat)
    case atStart => exact ⟨0, Nat.zero_le _, rfl, rfl, 0, rfl⟩
    case round =>
      obtain ⟨k, hk, rfl, htk, n, rfl⟩ := hrel
      by_cases hlt : k < l.length
      · obtain ⟨b, off, ha, hcl⟩ := hc (by omega)
        obtain ⟨b2, off2, ha2, hcl2⟩ := hc2 (by omega)
        subst ha ha2
        have hlt2 : k < l2.length := by omega
        have hi1 : (k : Int) < (l.length : Int) := by omega
        have hi2 : (k : Int) < (l2.length : Int) := by omega
        obtain ⟨c1, c2⟩ := hcl k hlt
        obtain ⟨c3, c4⟩ := hcl2 k hlt2
        by_cases e : l[k] = l2[k]
        · have HE := Hid.mk' (take_eqP htk hlt hlt2 e)
          rw [← e] at c3 c4
          clear hcl hcl2 hc hc2 htk hne e
          generalize l[k] = p at *
          go_wp2_with fail
          go_quiet (fail)
          go_wp2_with fail
          go_roundw
          case rel => exact ⟨k + 1, by omega, by go_num, HE.out, _, rfl⟩
          case measure => simp [intOf]; omega
        · have HE : Hid (¬ l = l2) := by
            show ¬ _
            rintro rfl; exact e rfl
          generalize l[k] = p at *
          generalize l2[k] = q at *
          clear hcl hcl2 hc hc2 htk hne
          by_cases e1 : p.1 = q.1
          · have hq := str_ne (fun e2 : p.2 = q.2 => e (Prod.ext e1 e2))
            rw [← e1] at c3
            generalize p.1 = p1 at *
            generalize p.2 = p2 at *
            generalize q.2 = q2 at *
            clear e e1
            go_wp2_with fail
            go_quiet (fail)
            go_wp2_with fail
            go_ret
            exact ⟨ret_bool (by symm; rw [decide_eq_false_iff_not]; exact HE.out), _, World.drewN_drewN _ _ _⟩
          · have hq := str_ne e1
            generalize p.1 = p1 at *
            generalize p.2 = p2 at *
            generalize q.1 = q1 at *
            generalize q.2 = q2 at *
            clear e e1
            go_wp2_with fail
            go_quiet (fail)
            go_wp2_with fail
            go_ret
            exact ⟨ret_bool (by symm; rw [decide_eq_false_iff_not]; exact HE.out), _, World.drewN_drewN _ _ _⟩
      · have e : k = l.length := by omega
        have hfin : l = l2 := by
          subst e
          rw [List.take_of_length_le (Nat.le_refl _), List.take_of_length_le (by omega)] at htk
          exact htk
        have HF := Hid.mk' hfin
        clear hfin htk
        go_wp2_with fail
        go_ret
        exact ⟨ret_bool (by symm; rw [decide_eq_true_iff]; exact HF.out), _, rfl⟩
  · have hb : ((l.length : Int) == (l2.length : Int)) = false := by simp; omega
    go_enter Tryz.func11, Tryz.ntmps11
    go_wp2
    go_ret
    exact ⟨ret_bool (by symm; rw [decide_eq_false_iff_not]; intro h; exact hne (by rw [h])), 0, rfl⟩

end Go.Proofs.YtdebbgodhpcijaaGreatDoor.pairs

namespace Go.Proofs.YtdebbgodhpcijaaGreatDoor.pairs
open Go Go.RowKit Go.Proofs.YtdebbgodhpcijaaGreatDoor.base Go.Proofs.YtdebbgodhpcijaaGreatDoor.helps
set_option linter.unusedVariables false
set_option linter.unusedSimpArgs false


structure TrioP (w0 w : World) (gx lx cx : Nat) (X : List Pr) (gg lg cg : Nat) (G : List Pr) (gw lw cw : Nat) (W : List Pr) : Prop where
  bel : Below w0.heap.size w0 w
  x : OwnP w w0.heap.size gx lx cx X
  g : OwnP w w0.heap.size gg lg cg G
  s : OwnP w w0.heap.size gw lw cw W
  xg : gx ≠ gg
  xs : gx ≠ gw
  gs : gg ≠ gw
section
variable {w0 w w' : World} {gx lx cx gg lg cg gw lw cw : Nat} {X G W : List Pr}
theorem TrioP.below (h : TrioP w0 w gx lx cx X gg lg cg G gw lw cw W) (hb : Below w.heap.size w w') : TrioP w0 w' gx lx cx X gg lg cg G gw lw cw W :=
  ⟨h.bel.trans (hb.mono h.bel.size), h.x.below hb, h.g.below hb, h.s.below hb, h.xg, h.xs, h.gs⟩
theorem TrioP.markX (h : TrioP w0 w gx lx cx X gg lg cg G gw lw cw W) {X' : List Pr} (ho : OwnP w' w0.heap.size gx lx cx X') (hg : w.grownBy w' (some gx)) : TrioP w0 w' gx lx cx X' gg lg cg G gw lw cw W :=
  ⟨h.bel.grown hg h.bel.size (fun k e => by cases e; exact h.x.lt.1), ho, h.g.grown hg (by simpa using h.xg.symm), h.s.grown hg (by simpa using h.xs.symm), h.xg, h.xs, h.gs⟩
theorem TrioP.markG (h : TrioP w0 w gx lx cx X gg lg cg G gw lw cw W) {G' : List Pr} (ho : OwnP w' w0.heap.size gg lg cg G') (hg : w.grownBy w' (some gg)) : TrioP w0 w' gx lx cx X gg lg cg G' gw lw cw W :=
  ⟨h.bel.grown hg h.bel.size (fun k e => by cases e; exact h.g.lt.1), h.x.grown hg (by simpa using h.xg), ho, h.s.grown hg (by simpa using h.gs.symm), h.xg, h.xs, h.gs⟩
end

/-! ### arguments -/
def strOf : Value → ByteArray
  | .string s => s
  | _ => ⟨#[]⟩
theorem slp_open {W : World} {ad : Addr} {len cap : Nat} {V0 V1 : Nat → Value} (hl : len ≤ cap) (hm : cap ≤ maxLen)
    (hs : ∀ i, i < len → V0 i = .string (strOf (V0 i)) ∧ V1 i = .string (strOf (V1 i)) ∧ (strOf (V0 i)).size ≤ maxLen ∧ (strOf (V1 i)).size ≤ maxLen)
    (hc : ∀ i, i < len → W.cell? (ad.add (i * 2)) = some (V0 i) ∧ W.cell? (ad.add (i * 2 + 1)) = some (V1 i)) : ∃ l, SlP W (some ad) len l := by
  obtain ⟨b, off, spot⟩ := ad
  refine ⟨(List.range len).map fun i => (strOf (V0 i), strOf (V1 i)), by simp, by omega, ?_, fun h0 => ?_⟩
  · intro p hp
    obtain ⟨i, hi, rfl⟩ := List.mem_map.1 hp
    have := hs i (List.mem_range.1 hi)
    exact ⟨this.2.2.1, this.2.2.2⟩
  · have hspot : spot = none := by simpa [Addr.add] using World.cell?_spot (hc 0 h0).1
    subst hspot
    refine ⟨b, off, rfl, fun i hi => ?_⟩
    have hi' : i < len := by simpa using hi
    have h1 := hc i hi'
    have h2 := hs i hi'
    rw [Addr.add_lit, Addr.add_lit, h2.1, h2.2.1] at h1
    simp only [List.getElem_map, List.getElem_range]
    rw [← Nat.add_assoc] at h1
    exact h1
theorem slp_arg {H : Type} {enc : TypeId × Value → H} {W : World} {a : Option Addr} {len cap fuel : Nat} {x : DataW H × List MemPlace} (t : TypeId) (e : TypeId) (f0 f1 : Field) (ht : Tryz.prog.underlying t = some (.slice e)) (he : Tryz.prog.underlying e = some (.struct #[f0, f1]))
    (ce : Tryz.prog.cellsOf e = 2) (o0 : f0.offset = 0) (o1 : f1.offset = 1) (t0 : f0.type = 9) (t1 : f1.type = 9) (c9 : Tryz.prog.cellsOf 9 = 1)
    (h : DataW.trod enc Tryz.prog W 0 (fun _ => true) true fuel t (Value.cells (.slice a len cap)).toList = some x) : ∃ l, SlP W a len l := by
  rcases Deep.open_slice_pairs ht he ce o0 o1 (by rw [t0]; exact c9) (by rw [t1]; exact c9) h with ⟨hcs, _⟩ | ⟨ad, len', cap', m, n, V0, V1, D0, D1, P0, P1, hcs, _, hl, hm, hmm, _, hx⟩
  · simp [Value.cells] at hcs
    obtain ⟨rfl, rfl, rfl⟩ := hcs
    exact ⟨[], slp_nil _ _⟩
  · simp [Value.cells] at hcs
    obtain ⟨rfl, rfl, rfl⟩ := hcs
    simp at hmm
    refine slp_open (V0 := V0) (V1 := V1) hl hm (fun i hi => ?_) (fun i hi => ⟨(hx i (by omega)).1, (hx i (by omega)).2.1⟩)
    obtain ⟨_, _, h3, h4⟩ := hx i (by omega)
    rw [t0] at h3
    rw [t1] at h4
    obtain ⟨s0, e0, _, z0⟩ := DataW.trod_string Tryz.underlying9 h3
    obtain ⟨s1, e1, _, z1⟩ := DataW.trod_string Tryz.underlying9 h4
    simp at e0 e1
    rw [e0, e1]
    exact ⟨rfl, rfl, z0, z1⟩

set_option maxRecDepth 100000 in
theorem pair_arg {H : Type} {enc : TypeId × Value → H} {W : World} {v : Value} {r : Reach} {base fuel : Nat} {x : DataW H × List MemPlace} (e : TypeId) (f0 f1 : Field) (he : Tryz.prog.underlying e = some (.struct #[f0, f1]))
    (ce : Tryz.prog.cellsOf e = 2) (o0 : f0.offset = 0) (o1 : f1.offset = 1) (t0 : f0.type = 9) (t1 : f1.type = 9) (c9 : Tryz.prog.cellsOf 9 = 1)
    (hok : Value.okWide Tryz.prog W r base e v) (h : DataW.trod enc Tryz.prog W 0 (fun _ => true) true fuel e v.cells.toList = some x) : ∃ p : Pr, v = .agg #[.string p.1, .string p.2] ∧ small p := by
  obtain ⟨cs, rfl, hsz⟩ := WideShapes.okWide_struct he hok
  rw [ce] at hsz
  obtain ⟨xs, m, _, _, _, hxl, hel⟩ := DataW.trod_struct he h
  have g0 := hel 0 f0 rfl
  have g1 := hel 1 f1 rfl
  obtain ⟨l⟩ := cs
  match l, hsz, xs, hxl with
  | [c0, c1], _, [y0, y1], _ =>
    simp [o0, o1, t0, t1, c9, Value.cells] at g0 g1
    obtain ⟨s0, e0, _, z0⟩ := DataW.trod_string Tryz.underlying9 g0
    obtain ⟨s1, e1, _, z1⟩ := DataW.trod_string Tryz.underlying9 g1
    simp at e0 e1
    subst e0 e1
    exact ⟨(s0, s1), rfl, z0, z1⟩

end Go.Proofs.YtdebbgodhpcijaaGreatDoor.pairs
