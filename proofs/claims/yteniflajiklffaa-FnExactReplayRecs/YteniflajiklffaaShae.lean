/- A block of three cells: small facts on worlds; no function of the program is named here. Rows of pairs that a law made, kept from step to step; arguments that are pairs, opened. An argument that is a slice of orders, opened. The laws' helpers for records that are handed in: copied; and the arguments, opened. The laws' own harness at slices of records: made anew, and counted. The specification's replay: where a transaction is held, and whether a key is. The specification's replay: whether a key of orders is one of what is held. append within the room that a make laid: small facts on worlds; no function of the program is named here. The program's keys and pairs: what is right. -/
import Derived.Test.YteniflajiklffaaShaa
import Derived.Test.YteniflajiklffaaShac
import Derived.Deep.SlicePairs
import Derived.ChangeArms
import Derived.Test.YteniflajiklffaaShad
import Derived.BigQuiet
import Derived.OwnWalk
namespace Go.Proofs.Yteniflajiklffaa.ords
open Go Go.RowKit Go.Proofs.Yteniflajiklffaa.base Go.Proofs.Yteniflajiklffaa.pairs
set_option linter.unusedVariables false

def V3 (w : World) (g : Nat) (t : TypeId) (x y z : Value) : Prop := w.heap[g]? = some (.cells #[x, y, z] t (0, 0))
section
variable {w w' : World} {g : Nat} {t : TypeId} {x y z : Value}
theorem V3.c0 (h : V3 w g t x y z) : w.cell? ⟨g, 0, none⟩ = some x := cell_cur h 0 _ rfl
theorem V3.c1 (h : V3 w g t x y z) : w.cell? ⟨g, 1, none⟩ = some y := cell_cur h 1 _ rfl
theorem V3.c2 (h : V3 w g t x y z) : w.cell? ⟨g, 2, none⟩ = some z := cell_cur h 2 _ rfl
theorem V3.lt (h : V3 w g t x y z) : g < w.heap.size := (Array.getElem?_eq_some_iff.1 h).1
theorem V3.below (h : V3 w g t x y z) (hb : Below w.heap.size w w') : V3 w' g t x y z := (hb.block g h.lt).trans h
end
theorem v3_grown {w w' : World} {g : Nat} {t : TypeId} {x y z : Value} {row : Option Nat} (h : V3 w g t x y z) (hg : w.grownBy w' row) (hne : some g ≠ row) : V3 w' g t x y z := (hg.block g h.lt hne).trans h
theorem v3_fz {w : World} {g : Nat} {t : TypeId} {x y z : Value} (h : V3 w g t x y z) (j : Nat) : w.frozen? ⟨g, j, none⟩ = false := by
  unfold V3 at h; simp [World.frozen?, h]
theorem v3_set {w : World} {g : Nat} {t : TypeId} {x y z : Value} (h : V3 w g t x y z) : (∀ u, V3 (w.setCell ⟨g, 0, none⟩ u) g t u y z ∧ w.grownBy (w.setCell ⟨g, 0, none⟩ u) (some g)) ∧ (∀ u, V3 (w.setCell ⟨g, 1, none⟩ u) g t x u z ∧ w.grownBy (w.setCell ⟨g, 1, none⟩ u) (some g)) ∧ (∀ u, V3 (w.setCell ⟨g, 2, none⟩ u) g t x y u ∧ w.grownBy (w.setCell ⟨g, 2, none⟩ u) (some g)) :=
  ⟨fun u => ⟨(set_cur h 0 u).1, (set_cur h 0 u).2⟩, fun u => ⟨(set_cur h 1 u).1, (set_cur h 1 u).2⟩, fun u => ⟨(set_cur h 2 u).1, (set_cur h 2 u).2⟩⟩
theorem v3_all {w : World} {g : Nat} {t : TypeId} {x y z : Value} (h : V3 w g t x y z) (a b c : Value) : V3 (((w.setCell ⟨g, 0, none⟩ a).setCell ⟨g, 1, none⟩ b).setCell ⟨g, 2, none⟩ c) g t a b c ∧ w.grownBy (((w.setCell ⟨g, 0, none⟩ a).setCell ⟨g, 1, none⟩ b).setCell ⟨g, 2, none⟩ c) (some g) := by
  have h1 := (v3_set h).1 a
  have h2 := (v3_set h1.1).2.1 b
  have h3 := (v3_set h2.1).2.2 c
  exact ⟨h3.1, grownBy_trans (grownBy_trans h1.2 h2.2) h3.2⟩
end Go.Proofs.Yteniflajiklffaa.ords

namespace Go.Proofs.Yteniflajiklffaa.pairs
open Go Go.RowKit Go.Proofs.Yteniflajiklffaa.base Go.Proofs.Yteniflajiklffaa.helps
set_option linter.unusedVariables false
set_option linter.unusedSimpArgs false

theorem markP (g len cap base k0 : Nat) (l : List Pr) (w : World) (h : OwnP w base g len cap l) (hk : len ≤ 274877906944) (hk0 : 1 ≤ k0) (hk2 : k0 ≤ 274877906944) (K : Int) (hK : Hid (K = (k0 : Int))) :
    Calls Try.prog 21 #[.slice (some ⟨g, 0, none⟩) len cap, .int .i64 K] w fun e w' => e = .returned (.int .i64 ((k0 : Int) + 2 * (len : Int))) ∧ OwnP w' base g len cap (marksP k0 len) ∧ w.grownBy w' (some g) := by
  have e := hK.out
  subst e
  refine (markPairS g len cap k0 base l w h hk0 (by omega)).mono ?_
  rintro e w' ⟨rfl, h1, h2⟩
  exact ⟨ret_int (by omega), h1, h2⟩
section
variable {w0 w w' : World} {gx lx cx gg lg cg gw lw cw : Nat} {X G W : List Pr}
end

/-! ### arguments -/
end Go.Proofs.Yteniflajiklffaa.pairs

namespace Go.Proofs.Yteniflajiklffaa.ords
open Go Go.RowKit Go.Proofs.Yteniflajiklffaa.base Go.Proofs.Yteniflajiklffaa.pairs
set_option linter.unusedVariables false
set_option linter.unusedSimpArgs false

theorem slo_open {W : World} {ad : Addr} {len cap : Nat} (hl : len ≤ cap) (hm : cap ≤ maxLen) (q : Nat → Od) (hs : ∀ i, i < len → smallO (q i))
    (hc : ∀ i, i < len → W.cell? (ad.add (i * 3)) = some (.int .i64 (q i).1) ∧ W.cell? (ad.add (i * 3 + 1)) = some (.string (q i).2.1) ∧ W.cell? (ad.add (i * 3 + 2)) = some (.string (q i).2.2)) : ∃ l, SlO W (some ad) len l := by
  obtain ⟨b, off, spot⟩ := ad
  refine ⟨(List.range len).map q, by simp, by omega, ?_, fun h0 => ?_⟩
  · intro p hp
    obtain ⟨i, hi, rfl⟩ := List.mem_map.1 hp
    exact hs i (List.mem_range.1 hi)
  · have hspot : spot = none := by simpa [Addr.add] using World.cell?_spot (hc 0 h0).1
    subst hspot
    refine ⟨b, off, rfl, fun i hi => ?_⟩
    have hi' : i < len := by simpa using hi
    have h1 := hc i hi'
    rw [Addr.add_lit, Addr.add_lit, Addr.add_lit] at h1
    simp only [List.getElem_map, List.getElem_range]
    rw [← Nat.add_assoc, ← Nat.add_assoc] at h1
    exact h1
set_option maxRecDepth 100000 in
theorem slo_arg {H : Type} {enc : TypeId × Value → H} {W : World} {a : Option Addr} {len cap fuel : Nat} {x : DataW H × List MemPlace} (t e : TypeId) (f0 f1 f2 : Field) (ht : Try.prog.underlying t = some (.slice e)) (he : Try.prog.underlying e = some (.struct #[f0, f1, f2]))
    (ce : Try.prog.cellsOf e = 3) (o0 : f0.offset = 0) (o1 : f1.offset = 1) (o2 : f2.offset = 2) (t0 : f0.type = 3) (t1 : f1.type = 9) (t2 : f2.type = 9) (c3 : Try.prog.cellsOf 3 = 1) (c9 : Try.prog.cellsOf 9 = 1)
    (h : DataW.trod enc Try.prog W 0 (fun _ => true) true fuel t (Value.cells (.slice a len cap)).toList = some x) : ∃ l, SlO W a len l := by
  rcases Deep.open_slice ht h with ⟨hcs, _⟩ | ⟨ad, len', cap', m, n, D, Pl, hcs, hb, hl, hm, hmm, _, hx⟩
  · simp [Value.cells] at hcs
    obtain ⟨rfl, rfl, rfl⟩ := hcs
    exact ⟨[], slo_nil _ _⟩
  · simp [Value.cells] at hcs
    obtain ⟨rfl, rfl, rfl⟩ := hcs
    simp at hmm
    have each : ∀ i, i < len → ∃ y : Od, smallO y ∧ W.cell? (ad.add (i * 3)) = some (.int .i64 y.1) ∧ W.cell? (ad.add (i * 3 + 1)) = some (.string y.2.1) ∧ W.cell? (ad.add (i * 3 + 2)) = some (.string y.2.2) := by
      intro i hi
      obtain ⟨cs', h1, h2⟩ := hx i (by omega)
      rw [ce] at h1
      obtain ⟨_, hlen, hcell⟩ := World.cells?_some h1
      obtain ⟨xs, k, hk, _, _, hxl, hf⟩ := DataW.trod_struct he h2
      match xs, hxl, cs', hlen with
      | [y0, y1, y2], _, [v0, v1, v2], _ =>
        have k0 := hf 0 f0 rfl
        have k1 := hf 1 f1 rfl
        have k2 := hf 2 f2 rfl
        rw [t0] at k0
        rw [t1] at k1
        rw [t2] at k2
        simp [o0, o1, o2, c3, c9] at k0 k1 k2
        obtain ⟨n0, e0, _, w0⟩ := DataW.trod_int Try.underlying3 k0
        obtain ⟨s1, e1, _, w1⟩ := DataW.trod_string Try.underlying9 k1
        obtain ⟨s2, e2, _, w2⟩ := DataW.trod_string Try.underlying9 k2
        simp at e0 e1 e2
        subst e0 e1 e2
        have d0 := hcell 0 (by omega)
        have d1 := hcell 1 (by omega)
        have d2 := hcell 2 (by omega)
        rw [Deep.add_add] at d0 d1 d2
        exact ⟨(n0, s1, s2), ⟨w0, w1, w2⟩, by simpa using d0, by simpa using d1, by simpa using d2⟩
    obtain ⟨q, hq⟩ := Deep.choose_lt each
    exact slo_open hl hm q (fun i hi => (hq i hi).1) (fun i hi => (hq i hi).2)
end Go.Proofs.Yteniflajiklffaa.ords

namespace Go.Proofs.Yteniflajiklffaa.recs
open Go Go.RowKit Go.Proofs.Yteniflajiklffaa.base Go.Proofs.Yteniflajiklffaa.pairs Go.Proofs.Yteniflajiklffaa.ords Go.Proofs.Yteniflajiklffaa.helps
set_option linter.unusedVariables false
set_option linter.unusedSimpArgs false

theorem v3n (w : World) (t : TypeId) (x y z : Value) : V3 (w.alloc (.cells #[x, y, z] t)) w.heap.size t x y z := heap_alloc_new w _
theorem v3a {w : World} {g : Nat} {t : TypeId} {x y z : Value} (h : V3 w g t x y z) (o : Obj) : V3 (w.alloc o) g t x y z := h.below ((Below.refl _ _).alloc (Nat.le_refl _) _)
theorem v3n1 (w : World) (o : Obj) (t : TypeId) (x y z : Value) : V3 ((w.alloc o).alloc (.cells #[x, y, z] t)) (w.heap.size + 1) t x y z := by
  have := v3n (w.alloc o) t x y z
  have e : (w.alloc o).heap.size = w.heap.size + 1 := by simp
  rw [e] at this; exact this
theorem v3n2 (w : World) (o o2 : Obj) (t : TypeId) (x y z : Value) : V3 (((w.alloc o).alloc o2).alloc (.cells #[x, y, z] t)) (w.heap.size + 2) t x y z := by
  have := v3n1 (w.alloc o) o2 t x y z
  have e : (w.alloc o).heap.size = w.heap.size + 1 := by simp
  rw [e] at this; exact this

set_option maxRecDepth 100000 in
set_option maxHeartbeats 2000000 in
theorem toRec (kind tx : Int) (pa : Option Addr) (pl pc : Nat) (l : List Od) (w : World) (h : SlO w pa pl l) (hsz : pl ≤ 1099511627776) :
    Calls Try.prog 43 #[.agg #[.int .i64 kind, .int .i64 tx, .slice pa pl pc]] w fun e w' =>
      ∃ g, e = .returned (.agg #[.int .i64 kind, .int .i64 tx, .slice (some ⟨g, 0, none⟩) pl pl]) ∧ OwnO w' w.heap.size g pl pl l ∧ Below w.heap.size w w' := by
  obtain ⟨W0, hW0⟩ : ∃ W, ((w.alloc (.cells #[.int .i64 kind, .int .i64 tx, .slice pa pl pc] 85)).alloc (.cells #[.int .i64 0, .int .i64 0, .slice none 0 0] 91)).alloc (.cells #[.int .i64 kind, .int .i64 tx, .slice none 0 0] 91) = W := ⟨_, rfl⟩
  have hB : Below w.heap.size w W0 := by rw [← hW0]; exact (((Below.refl _ _).alloc (Nat.le_refl _) _).alloc (by simp) _).alloc (by simp; omega) _
  have v1 : V3 W0 (w.heap.size + 1) 91 (.int .i64 0) (.int .i64 0) (.slice none 0 0) := by
    rw [← hW0]; exact v3a (v3n1 w _ _ _ _ _) _
  have v2 : V3 W0 (w.heap.size + 1 + 1) 91 (.int .i64 kind) (.int .i64 tx) (.slice none 0 0) := by
    rw [← hW0]; exact v3n2 w _ _ _ _ _ _
  have HW := Hid.mk' hW0
  have HT := Hid.mk' (toOpS pa pl pc l W0 (h.below hB) hsz)
  clear hW0
  go_enter Try.func43, Try.ntmps43
  go_wp2_with fail
  rw [HW.out]
  refine HT.out.mono ?_
  rintro e w2 ⟨g, rfl, hO, hb2⟩
  have u1 := v1.below hb2
  have u2 := v2.below hb2
  have hB2 := hB.trans (hb2.mono hB.size)
  have hgl := hO.lt
  have hl2 := v2.lt
  have s2 := (v3_set u2).2.2 (.slice (some ⟨g, 0, none⟩) pl pl)
  have t1 := v3_grown u1 s2.2 (by simp)
  have hO2 := hO.grown s2.2 (by simp; omega)
  have hB3 := hB2.grown s2.2 hB2.size (fun j e => by cases e; omega)
  have z := v3_all t1 (.int .i64 kind) (.int .i64 tx) (.slice (some ⟨g, 0, none⟩) pl pl)
  have HO := Hid.mk' ((hO2.grown z.2 (by simp; omega)).mono (base' := w.heap.size) hB.size)
  have HBz := Hid.mk' (hB3.grown z.2 hB3.size (fun j e => by cases e; omega))
  have z0 := z.1.c0
  have z1 := z.1.c1
  have z2 := z.1.c2
  have m2 := u2.c2
  have q2 := v3_fz u2 2
  have a0 := s2.1.c0
  have a1 := s2.1.c1
  have a2 := s2.1.c2
  have b0 := t1.c0
  have b1 := t1.c1
  have b2 := t1.c2
  have k0 := v3_fz t1 0
  have k1 := v3_fz t1 1
  have k2 := v3_fz t1 2
  clear v1 v2 u1 u2 s2 t1 z hO hO2 hb2 hB hB2 hB3 HW HT
  go_wp2_with fail
  refine bodyPost_ret (v := .agg #[.int .i64 kind, .int .i64 tx, .slice (some ⟨g, 0, none⟩) pl pl]) ?h1 rfl ⟨g, rfl, HO.out, HBz.out⟩
  simp [results, Try.results43, go_sem, z0, z1, z2]

/-! ### arguments -/
theorem slo_arg2 {H : Type} {enc : TypeId × Value → H} {W : World} {n : Nat} {v : Value} {y : DataW H × List MemPlace} (f0 f1 f2 : Field) (he : Try.prog.underlying 166 = some (.struct #[f0, f1, f2]))
    (ce : Try.prog.cellsOf 166 = 3) (o0 : f0.offset = 0) (o1 : f1.offset = 1) (o2 : f2.offset = 2) (t0 : f0.type = 3) (t1 : f1.type = 9) (t2 : f2.type = 9) (c3 : Try.prog.cellsOf 3 = 1) (c9 : Try.prog.cellsOf 9 = 1)
    (h : DataW.trod enc Try.prog W 0 (fun _ => true) true n 83 [v] = some y) : ∃ pa pl pc l, v = .slice pa pl pc ∧ SlO W pa pl l ∧ pl ≤ pc := by
  obtain ⟨pa, pl, pc, hv, hpc⟩ : ∃ a len cap, v = .slice a len cap ∧ len ≤ cap := by
    rcases Deep.open_slice Try.underlying83 h with ⟨hcs, _⟩ | ⟨ad, len, cap, _, _, _, _, hcs, _, hl, _⟩
    · simp at hcs; exact ⟨_, _, _, hcs, Nat.le_refl _⟩
    · simp at hcs; exact ⟨_, _, _, hcs, hl⟩
  subst hv
  obtain ⟨l, hl⟩ := slo_arg (cap := pc) 83 166 f0 f1 f2 Try.underlying83 he ce o0 o1 o2 t0 t1 t2 c3 c9 h
  exact ⟨pa, pl, pc, l, rfl, hl, hpc⟩
end Go.Proofs.Yteniflajiklffaa.recs

namespace Go.Proofs.Yteniflajiklffaa.recs
open Go Go.RowKit Go.Proofs.Yteniflajiklffaa.base Go.Proofs.Yteniflajiklffaa.pairs Go.Proofs.Yteniflajiklffaa.ords
set_option linter.unusedVariables false
set_option linter.unusedSimpArgs false

theorem recVals_put (l : List Rc) (hs : List Value) (h : hs.length = l.length) (i : Nat) (hi : i < l.length) (x : Rc) (y : Value) : (((recVals l hs).set (i * 3) (.int .i64 x.1)).set (i * 3 + 1) (.int .i64 x.2.1)).set (i * 3 + 2) y = recVals (l.set i x) (hs.set i y) := by
  induction l generalizing hs i with
  | nil => simp at hi
  | cons r l ih =>
    cases hs with
    | nil => simp at h
    | cons u hs =>
      cases i with
      | zero => rfl
      | succ i =>
        rw [recVals_cons, show (i + 1) * 3 = i * 3 + 1 + 1 + 1 by omega, show i * 3 + 1 + 1 + 1 + 1 = (i * 3 + 1) + 1 + 1 + 1 by omega, show i * 3 + 1 + 1 + 1 + 2 = (i * 3 + 2) + 1 + 1 + 1 by omega]
        simp only [List.set_cons_succ, recVals_cons]
        rw [ih hs (by simpa using h) i (by simpa using hi)]
theorem OwnR.put {w : World} {base g n cap : Nat} {l : List Rc} {hs : List Value} (h : OwnR w base (.slice (some ⟨g, 0, none⟩) n cap) l hs) (i : Nat) (hi : i < l.length) (x : Rc) (y : Value) (hx : smallR x) (hy : OwnV w base y x.2.2) (hout : ∀ k, y.ownBlock = some k → ¬ BlkR (.slice (some ⟨g, 0, none⟩) n cap) hs k) :
    OwnR (((w.setCell ⟨g, i * 3, none⟩ (.int .i64 x.1)).setCell ⟨g, i * 3 + 1, none⟩ (.int .i64 x.2.1)).setCell ⟨g, i * 3 + 2, none⟩ y) base (.slice (some ⟨g, 0, none⟩) n cap) (l.set i x) (hs.set i y) ∧
      w.grownBy (((w.setCell ⟨g, i * 3, none⟩ (.int .i64 x.1)).setCell ⟨g, i * 3 + 1, none⟩ (.int .i64 x.2.1)).setCell ⟨g, i * 3 + 2, none⟩ y) (some g) := by
  obtain rfl := h.nlen
  have hlen := h.len
  have s0 := h.row.stored (i * 3) (.int .i64 x.1)
  have s1 := s0.1.stored (i * 3 + 1) (.int .i64 x.2.1)
  have s2 := s1.1.stored (i * 3 + 2) y
  rw [recVals_put l hs h.len i hi x y] at s2
  have hg := grownBy_trans (grownBy_trans s0.2 s1.2) s2.2
  have hyg : y.ownBlock ≠ some g := fun e => hout g e (.inl rfl)
  refine ⟨⟨by simpa using h.len, mem_set_smallR h.sm hx, by simpa using s2.1, fun j hj => ?_, ?_, ?_⟩, hg⟩
  · have hjl : j < l.length := by simpa using hj
    by_cases e : i = j
    · subst e
      rw [List.getElem_set_self, List.getElem_set_self]
      exact hy.grown hg (.inr hyg)
    · rw [List.getElem_set_ne e, List.getElem_set_ne e]
      exact (h.ops j hjl).grown hg (.inr (h.out g rfl _ (List.getElem_mem _)))
  · rw [List.pairwise_iff_getElem]
    intro a b ha hb hab
    have ha' : a < hs.length := by simpa using ha
    have hb' : b < hs.length := by simpa using hb
    have hp := List.pairwise_iff_getElem.1 h.apart a b ha' hb' hab
    by_cases ea : i = a
    · subst ea
      rw [List.getElem_set_self, List.getElem_set_ne (by omega)]
      cases e : y.ownBlock with
      | none => exact .inl rfl
      | some k => exact .inr (fun e2 => hout k e (.inr ⟨hs[b], List.getElem_mem _, e2.symm⟩))
    · rw [List.getElem_set_ne ea]
      by_cases eb : i = b
      · subst eb
        rw [List.getElem_set_self]
        cases e : hs[a].ownBlock with
        | none => exact .inl rfl
        | some k => exact .inr (fun e2 => hout k e2.symm (.inr ⟨hs[a], List.getElem_mem _, e⟩))
      · rw [List.getElem_set_ne eb]; exact hp
  · intro k hk z hz
    rcases List.mem_or_eq_of_mem_set hz with h1 | h1
    · exact h.out k hk z h1
    · subst h1
      have : k = g := by simpa [Value.ownBlock] using hk.symm
      rw [this]; exact hyg
def copyR (l : List Rc) (k : Nat) : List Rc := l.take k ++ List.replicate (l.length - k) (0, 0, [])
theorem copyR_length (l : List Rc) (k : Nat) (h : k ≤ l.length) : (copyR l k).length = l.length := by simp [copyR]; omega
theorem copyR_set (l : List Rc) (k : Nat) (h : k < l.length) : (copyR l k).set k l[k] = copyR l (k + 1) := by
  unfold copyR
  rw [List.take_succ_eq_append_getElem h]
  have e1 : (l.take k).length = k := by simp; omega
  have e2 : l.length - k = (l.length - (k + 1)) + 1 := by omega
  rw [List.set_append_right _ _ (by omega), e1, Nat.sub_self, e2, List.replicate_succ, List.set_cons_zero, List.append_assoc]
  rfl
theorem copyR_all (l : List Rc) : copyR l l.length = l := by simp [copyR]
theorem recVals_rep (n : Nat) : recVals (List.replicate n (0, 0, [])) (List.replicate n (.slice none 0 0)) = (madeCells (Value.agg #[.int .i64 0, .int .i64 0, .slice none 0 0]).cells (n * 3)).toList := by
  apply List.ext_getElem?
  intro j
  by_cases hj : j < n * 3
  · have hd : j / 3 < n := by omega
    have hc := recVals_get (List.replicate n ((0, 0, []) : Rc)) (List.replicate n (.slice none 0 0)) (by simp) (j / 3) (by simpa using hd)
    have hmod : j % 3 = 0 ∨ j % 3 = 1 ∨ j % 3 = 2 := by omega
    rcases hmod with h3 | h3 | h3
    · have e : j = j / 3 * 3 := by omega
      conv => lhs; rw [e, hc.1]
      simp [madeCells, h3, hj, Value.cells]
    · have e : j = j / 3 * 3 + 1 := by omega
      conv => lhs; rw [e, hc.2.1]
      simp [madeCells, h3, hj, Value.cells]
    · have e : j = j / 3 * 3 + 2 := by omega
      conv => lhs; rw [e, hc.2.2]
      simp [madeCells, h3, hj, Value.cells]
  · rw [List.getElem?_eq_none (by rw [recVals_length _ _ (by simp)]; simp; omega), List.getElem?_eq_none (by simp [madeCells]; omega)]
theorem infoRH : (Try.prog.info? 91).map (fun i => (i.zero, i.size, i.bytes)) = some (some (.agg #[.int .i64 0, .int .i64 0, .slice none 0 0]), 3, 40) := by kernel_rfl
theorem copyR_small {l : List Rc} (k : Nat) (h : ∀ x ∈ l, smallR x) : ∀ x ∈ copyR l k, smallR x := by
  intro x hx
  rcases List.mem_append.1 hx with h1 | h1
  · exact h x (List.mem_of_mem_take h1)
  · obtain rfl := (List.mem_replicate.1 h1).2
    exact ⟨rfl, rfl, fun o ho => absurd ho List.not_mem_nil⟩

set_option maxRecDepth 100000 in
set_option maxHeartbeats 2000000 in
theorem toRecS (a : Option Addr) (len cap : Nat) (l : List Rc) (w : World) (h : SlR w a len l) (hsz : len ≤ 1099511627776) (hops : ∀ r ∈ l, r.2.2.length ≤ 1099511627776) :
    Calls Try.prog 16 #[.slice a len cap] w fun e w' => ∃ g hs, e = .returned (.slice (some ⟨g, 0, none⟩) len len) ∧ OwnR w' w.heap.size (.slice (some ⟨g, 0, none⟩) len len) l hs ∧ Below w.heap.size w w' := by
  obtain ⟨hl, hm, hsm, hc⟩ := id h
  subst hl
  have hm' := hm
  unfold maxLen at hm'
  obtain ⟨i0, hif, hz0, hz1, hz2⟩ := info_parts infoRH
  go_enter Try.func16, Try.ntmps16
  go_wp2_with (at_make; refine wpList_make_full _ rfl _ _ 48 rfl w.heap.size 91 i0 (.agg #[.int .i64 0, .int .i64 0, .slice none 0 0]) 3 Try.underlying48 hif hz0 hz1 _ _ _ _ l.length rfl rfl rfl rfl ?b2 ?b3 ?b4 ?_)
  case b2 => rw [hz2]; omega
  case b3 => exact hm
  case b4 => exact Nat.le_refl _
  intro w1 hown hgrow
  have hOwn : OwnR w1 w.heap.size (.slice (some ⟨w.heap.size, 0, none⟩) l.length l.length) (copyR l 0) (List.replicate l.length (.slice none 0 0)) := by
    have e0 : copyR l 0 = List.replicate l.length (0, 0, []) := by simp [copyR]
    refine ⟨by rw [e0]; simp, copyR_small 0 hsm, ?_, fun i hi => ?_, ?_, ?_⟩
    · rw [e0, recVals_rep, List.length_replicate]; exact hown
    · have hi' : i < l.length := by rw [e0] at hi; simpa using hi
      simp only [e0, List.getElem_replicate]
      exact ownV_nil _ _
    · rw [List.pairwise_iff_getElem]
      intro x y hx hy hxy
      left
      rw [List.getElem_replicate]; rfl
    · intro k hk y hy
      obtain rfl := (List.mem_replicate.1 hy).2
      simp [Value.ownBlock]
  have hbel : Below w.heap.size w w1 := (Below.refl _ _).grown hgrow (Nat.le_refl _) (fun k e => by cases e)
  clear hown hgrow hif hz0 hz1 hz2
  go_wp2_with fail
  go_loopw [4] (fun i wr => ∃ (k : Nat) (hs : List Value), k ≤ l.length ∧ i = .int .i64 k ∧ OwnR wr w.heap.size (.slice (some ⟨w.heap.size, 0, none⟩) l.length l.length) (copyR l k) hs ∧ Below w.heap.size w wr) (fun i _ => l.length - (intOf i).toNat)
  case atStart => exact ⟨0, _, Nat.zero_le _, rfl, hOwn, hbel⟩
  case round =>
    clear hOwn hbel
    obtain ⟨k, hs, hk, rfl, hO, hB⟩ := hrel
    by_cases hlt : k < l.length
    · obtain ⟨b, off, ha, _⟩ := hc (by omega)
      subst ha
      obtain ⟨c0, c1, pa, pl, pc, c2, hSo, _⟩ := (h.at k hlt).below hB
      have hpk := hsm _ (List.getElem_mem hlt)
      have hki : (k : Int) < (l.length : Int) := by omega
      have HS := Hid.mk' (copyR_set l k hlt)
      have hol := hops _ (List.getElem_mem hlt)
      have hpl := hSo.1
      generalize l[k] = p at *
      clear hc
      go_wp2_with fail
      refine (toRec p.1 p.2.1 pa pl pc p.2.2 _ hSo (by omega)).mono ?_
      rintro e w2 ⟨g2, rfl, hO2, hb2⟩
      have hOR := hO.below hb2
      have hB2 := hB.trans (hb2.mono hB.size)
      have hkl : k < (copyR l k).length := by rw [copyR_length l k hk]; exact hlt
      have hV2 := (ownV_of hO2).mono (base' := w.heap.size) hB.size
      have hg2 := hO2.lt
      have R := hOR.put k hkl p (.slice (some ⟨g2, 0, none⟩) pl pl) hpk hV2 (fun j hj hb => by
        have e1 : g2 = j := by simpa [Value.ownBlock] using hj
        have := (hO.lt j hb).2
        omega)
      rw [HS.out] at R
      have HR := Hid.mk' R
      obtain ⟨d0, d1, d2⟩ := hOR.at k hkl
      have f0 := hOR.frozen (k * 3)
      have f1 := hOR.frozen (k * 3 + 1)
      have f2 := hOR.frozen (k * 3 + 2)
      generalize (copyR l k)[k].1 = z0 at *
      generalize (copyR l k)[k].2.1 = z1 at *
      generalize hs[k]'(by have := hO.len; omega) = z2 at *
      have hsz2 := hB2.size
      clear R hO hOR hO2 hV2 hB hb2 c0 c1 c2 hSo
      go_wp2_with fail
      go_roundw
      case rel => exact ⟨k + 1, _, by omega, by go_num, HR.out.1, hB2.trans (below_grown HR.out.2 (Nat.le_refl _) hsz2)⟩
      case measure => simp [intOf]; omega
    · have e : k = l.length := by omega
      subst e
      rw [copyR_all] at hO
      go_wp2_with fail
      go_ret
      exact ⟨_, _, rfl, hO, hB⟩
def rsz (r : Rc) : Nat := r.2.2.length + sumO r.2.2
def sumR (l : List Rc) : Nat := (l.map rsz).sum
theorem sumR_take (l : List Rc) (k : Nat) (h : k < l.length) : sumR (l.take (k + 1)) = sumR (l.take k) + rsz l[k] := by
  unfold sumR
  rw [List.take_succ_eq_append_getElem h, List.map_append, List.sum_append]; simp
theorem sumR_le (l : List Rc) (k : Nat) : sumR (l.take k) ≤ sumR l := by
  conv => rhs; rw [← List.take_append_drop k l]
  unfold sumR
  rw [List.map_append, List.sum_append]; omega
set_option maxRecDepth 100000 in
set_option maxHeartbeats 2000000 in
theorem szRecS (a : Option Addr) (len cap : Nat) (l : List Rc) (L : Nat) (w : World) (h : SlR w a len l) (hL : L ≤ 1099511627776) :
    Calls Try.prog 14 #[.slice a len cap, .int .i64 (L : Int)] w fun e w' => e = .returned (.int .i64 (pairs.szR L (l.length + sumR l))) ∧ Below w.heap.size w w' := by
  obtain ⟨hl, hm, hsm, hc⟩ := id h
  subst hl
  unfold maxLen at hm
  by_cases hneg : L < l.length
  · rw [pairs.szR_neg (by omega)]
    have h1 : (L : Int) - (l.length : Int) < 0 := by omega
    go_enter Try.func14, Try.ntmps14
    go_wp2
    go_ret
    exact ⟨rfl, Below.refl _ _⟩
  · have h1 : ¬ (L : Int) - (l.length : Int) < 0 := by omega
    go_enter Try.func14, Try.ntmps14
    go_wp2_with fail
    go_loopw [1, 5] (fun lv i wr => ∃ k m : Nat, k ≤ l.length ∧ i = .int .i64 (k : Int) ∧ lv = .int .i64 (m : Int) ∧ m + (l.length + sumR (l.take k)) = L ∧ Below w.heap.size w wr) (fun _ i _ => l.length - (intOf i).toNat)
    case atStart => exact ⟨0, L - l.length, Nat.zero_le _, rfl, by go_num, by simp [sumR]; omega, Below.refl _ _⟩
    case round =>
      obtain ⟨k, m, hk, rfl, rfl, hmL, hB⟩ := hrel
      by_cases hlt : k < l.length
      · obtain ⟨b, off, ha, _⟩ := hc (by omega)
        subst ha
        obtain ⟨c0, c1, pa, pl, pc, c2, hSo, _⟩ := (h.at k hlt).below hB
        have hst := sumR_take l k hlt
        have hle := sumR_le l (k + 1)
        have hi1 : (k : Int) < (l.length : Int) := by omega
        have hmB : m ≤ 1099511627776 := by omega
        have HML := Hid.mk' hmL
        have HST := Hid.mk' hst
        have HLE := Hid.mk' hle
        generalize l[k] = p at *
        clear hc hsm hmL hst hle
        have hcall : Calls Try.prog 41 #[.agg #[.int .i64 p.1, .int .i64 p.2.1, .slice pa pl pc], .int .i64 (m : Int)] wr fun e w' => e = .returned (.int .i64 (pairs.szR m (rsz p))) ∧ Below wr.heap.size wr w' := szRec p.1 p.2.1 pa pl pc p.2.2 m wr hSo hmB
        by_cases hover : m < rsz p
        · rw [pairs.szR_neg hover] at hcall
          have HC := Hid.mk' hcall
          clear hcall
          go_wp2_with fail
          refine HC.out.mono ?_
          rintro e w2 ⟨rfl, hB2⟩
          go_wp2_with fail
          go_ret
          have e1 := HML.out
          have e2 := HST.out
          have e3 := HLE.out
          rw [pairs.szR_neg (by omega)]
          exact ⟨rfl, hB.trans (hB2.mono hB.size)⟩
        · rw [pairs.szR_pos (by omega), show (m : Int) - (rsz p : Int) = ((m - rsz p : Nat) : Int) by omega] at hcall
          have HC := Hid.mk' hcall
          obtain ⟨m2, hm2⟩ : ∃ m2, m - rsz p = m2 := ⟨_, rfl⟩
          rw [hm2] at HC
          have HM2 := Hid.mk' hm2
          have hm2b : m2 ≤ 1099511627776 := by omega
          clear hcall hm2
          go_wp2_with fail
          refine HC.out.mono ?_
          rintro e w2 ⟨rfl, hB2⟩
          go_wp2_with fail
          go_roundw
          case rel => exact ⟨k + 1, m2, by omega, by go_num, rfl, by have e1 := HML.out; have e2 := HST.out; have e3 := HM2.out; omega, hB.trans (hB2.mono hB.size)⟩
          case measure => simp [intOf]; omega
      · have e : k = l.length := by omega
        subst e
        rw [List.take_length] at hmL
        go_wp2_with fail
        go_ret
        rw [pairs.szR_pos (by omega), show (L : Int) - ((l.length + sumR l : Nat) : Int) = (m : Int) by omega]
        exact ⟨rfl, hB⟩
end Go.Proofs.Yteniflajiklffaa.recs

namespace Go.Proofs.Yteniflajiklffaa.recs
open Go Go.RowKit Go.Proofs.Yteniflajiklffaa.base Go.Proofs.Yteniflajiklffaa.pairs Go.Proofs.Yteniflajiklffaa.ords
set_option linter.unusedVariables false
set_option linter.unusedSimpArgs false

theorem placeTx_hit {tx : Int} : ∀ {l : List Rc} {k : Nat} (h : k < l.length), (∀ r ∈ l.take k, r.2.1 ≠ tx) → l[k].2.1 = tx → placeTx tx l = some k
  | r :: l, 0, _, _, e => by rw [placeTx, if_pos (by simpa using e)]
  | r :: l, k + 1, h, hn, e => by
    rw [placeTx, if_neg (hn r (by simp)), placeTx_hit (k := k) (by simpa using h) (fun x hx => hn x (by simp [hx])) (by simpa using e)]
    rfl
theorem placeTx_miss {tx : Int} : ∀ {l : List Rc}, (∀ r ∈ l, r.2.1 ≠ tx) → placeTx tx l = none
  | [], _ => rfl
  | r :: l, hn => by rw [placeTx, if_neg (hn r (by simp)), placeTx_miss (fun x hx => hn x (by simp [hx]))]; rfl
def atRet (r : Option Nat) : Int := match r with | none => -1 | some k => (k : Int)

set_option maxRecDepth 100000 in
set_option maxHeartbeats 2000000 in
theorem spec_l8At (a : Option Addr) (len cap : Nat) (l : List Rc) (tx : Int) (w : World) (h : SlR w a len l) :
    Calls Try.prog 77 #[.slice a len cap, .int .i64 tx] w fun e w' => e = .returned (.int .i64 (atRet (placeTx tx l))) ∧ w' = w := by
  obtain ⟨hl, hm, hsm, hc⟩ := id h
  subst hl
  unfold maxLen at hm
  generalize hR : placeTx tx l = R
  have HR := Hid.mk' hR
  clear hR
  go_enter Try.func77, Try.ntmps77
  go_wp2_with fail
  go_loopw [5] (fun i wr => ∃ k : Nat, k ≤ l.length ∧ i = .int .i64 (k : Int) ∧ (∀ r ∈ l.take k, r.2.1 ≠ tx) ∧ wr = w) (fun i _ => l.length - (intOf i).toNat)
  case atStart => exact ⟨0, Nat.zero_le _, rfl, by simp, rfl⟩
  case round =>
    obtain ⟨k, hk, rfl, hno, rfl⟩ := hrel
    by_cases hlt : k < l.length
    · obtain ⟨b, off, ha, _⟩ := hc (by omega)
      subst ha
      obtain ⟨c0, c1, pa, pl, pc, c2, _, _⟩ := h.at k hlt
      have hki : (k : Int) < (l.length : Int) := by omega
      by_cases e : l[k].2.1 = tx
      · have HP : Hid (R = some k) := by show _ = _; rw [← HR.out]; exact placeTx_hit hlt hno e
        have eb : (l[k].2.1 == tx) = true := by simpa using e
        clear hno HR e
        generalize l[k] = p at *
        go_wp2_with fail
        go_ret
        rw [HP.out]
        exact ⟨rfl, rfl⟩
      · have eb : (l[k].2.1 == tx) = false := beq_eq_false_iff_ne.2 e
        have HN : Hid (∀ r ∈ l.take (k + 1), r.2.1 ≠ tx) := by
          intro r hr
          rw [List.take_succ_eq_append_getElem hlt] at hr
          rcases List.mem_append.1 hr with e2 | e2
          · exact hno r e2
          · rw [List.mem_singleton.1 e2]; exact e
        clear hno e
        generalize l[k] = p at *
        go_wp2_with fail
        go_roundw
        case rel => exact ⟨k + 1, by omega, by go_num, HN.out, by trivial⟩
        case measure => simp [intOf]; omega
    · have HP : Hid (R = none) := by
        show _ = _
        rw [← HR.out]
        rw [List.take_of_length_le (by omega)] at hno
        exact placeTx_miss hno
      go_wp2_with fail
      go_ret
      rw [HP.out]
      exact ⟨rfl, rfl⟩
theorem append_nothing (w : World) (g c : Nat) (ty : TypeId) : (Builtin.append_ #[28, 28] ty #[.slice (some ⟨g, 0, none⟩) 0 0, .slice none 0 c]).run Try.prog w = .ok (.slice (some ⟨g, 0, none⟩) 0 0) w := by kernel_rfl

set_option maxRecDepth 100000 in
set_option maxHeartbeats 2000000 in
theorem spec_copyOps (a : Option Addr) (len cap : Nat) (l : List Od) (w : World) (h : SlO w a len l) (hsz : len ≤ 1099511627776) :
    Calls Try.prog 62 #[.slice a len cap] w fun e w' => ∃ g' cp', e = .returned (.slice (some ⟨g', 0, none⟩) len cp') ∧ OwnO w' w.heap.size g' len cp' l ∧ Below w.heap.size w w' := by
  obtain ⟨i0, hi, hz0, hz1, hz2⟩ := info_parts infoO
  have hl := h.1
  have hsm := h.2.2.1
  have hba : Below w.heap.size w (w.alloc (.cells #[] 111)) := (Below.refl _ _).alloc (Nat.le_refl _) _
  have hOm := ownO_made w w.heap.size (Nat.le_refl _)
  cases a with
  | none =>
    have h0 : len = 0 := by
      rcases Nat.eq_zero_or_pos len with e | e
      · exact e
      · obtain ⟨b, off, ha, _⟩ := h.2.2.2 e; cases ha
    subst h0
    have e1 : l = [] := List.eq_nil_of_length_eq_zero hl
    subst e1
    have han := append_nothing
    go_enter Try.func62, Try.ntmps62
    go_wp2_with fail
    go_ret
    exact ⟨_, _, rfl, hOm, hba⟩
  | some ad =>
    have hcell : Hid (∀ j u, (ordVals l)[j]? = some u → (w.alloc (.cells #[] 111)).cell? (ad.add j) = some u) := by
      rcases Nat.eq_zero_or_pos len with e | e
      · intro j u hj
        have e1 : l = [] := List.eq_nil_of_length_eq_zero (by omega)
        rw [e1] at hj; simp [ordVals] at hj
      · obtain ⟨b, off, ha, _⟩ := h.2.2.2 e
        cases ha
        exact cells_ords (h.below hba).cells
    have hc3 : 0 + len ≤ maxLen := by unfold maxLen; omega
    have hc4 : (0 + len) * 40 ≤ 140737488355328 := by omega
    have hl2 : (ordVals l).length = len * 3 := by rw [ordVals_length]; omega
    go_enter Try.func62, Try.ntmps62
    go_wp2_with (at_builtin; refine wpList_append_own _ rfl (.tmp 3) (.tmp 4) 28 rfl w.heap.size 111 i0 (.agg #[.int .i64 0, .string ⟨#[]⟩, .string ⟨#[]⟩]) 3 40 Try.underlying28 hi hz0 hz1 hz2 rfl (by decide) _ _ _ rfl hOm.2.2 ad len cap (ordVals l) rfl hl2 hcell.out (ordVals_oneCell l) hc3 hc4 hba.size ?_)
    intro v1 w1 hown hgrow hnn
    have hnn' : ¬ v1 = .slice none 0 0 := by simpa using hnn
    obtain ⟨g1, c1, hv1, hO1⟩ := ownO_val hl hsm hnn' (by have h9 := hown; rwa [show ordVals [] ++ ordVals l = ordVals l from rfl] at h9)
    subst hv1
    have hgr : (w.alloc (.cells #[] 111)).grownBy w1 (some w.heap.size) := hgrow
    have hB1 := hba.grown hgr hba.size (fun k e => by cases e; exact Nat.le_refl _)
    clear hown hgrow hnn hnn' hgr
    go_wp2_with fail
    go_ret
    exact ⟨g1, c1, rfl, hO1, hB1⟩
set_option maxRecDepth 100000 in
set_option maxHeartbeats 2000000 in
theorem spec_copyRec (kind tx : Int) (a : Option Addr) (len cap : Nat) (l : List Od) (w : World) (h : SlO w a len l) (hsz : len ≤ 1099511627776) :
    Calls Try.prog 82 #[.agg #[.int .i64 kind, .int .i64 tx, .slice a len cap]] w fun e w' =>
      ∃ g cp, e = .returned (.agg #[.int .i64 kind, .int .i64 tx, .slice (some ⟨g, 0, none⟩) len cp]) ∧ OwnO w' w.heap.size g len cp l ∧ Below w.heap.size w w' := by
  obtain ⟨W, hW⟩ : ∃ W, W = (w.alloc (.cells #[.int .i64 kind, .int .i64 tx, .slice a len cap] 91)).alloc (.cells #[.int .i64 0, .int .i64 0, .slice none 0 0] 91) := ⟨_, rfl⟩
  have hba : Below w.heap.size w (w.alloc (.cells #[.int .i64 kind, .int .i64 tx, .slice a len cap] 91)) := (Below.refl _ _).alloc (Nat.le_refl _) _
  have hB : Below w.heap.size w W := by rw [hW]; exact hba.alloc hba.size _
  have hT : BoxR w.heap.size kind tx (.slice a len cap) W := by rw [hW]; exact (boxR_new w _ _ _).below ((Below.refl _ _).alloc (Nat.le_refl _) _)
  have hR : BoxR (w.heap.size + 1) 0 0 (.slice none 0 0) W := by
    rw [hW]
    have := boxR_new (w.alloc (.cells #[.int .i64 kind, .int .i64 tx, .slice a len cap] 91)) 0 0 (.slice none 0 0)
    rwa [show (w.alloc (.cells #[.int .i64 kind, .int .i64 tx, .slice a len cap] 91)).heap.size = w.heap.size + 1 by simp] at this
  have HC := Hid.mk' (spec_copyOps a len cap l W (h.below hB) hsz)
  obtain ⟨d0, d1, d2⟩ := hT.cells
  rw [hW] at d0 d1 d2
  have HW := Hid.mk' hW.symm
  clear hW
  go_enter Try.func82, Try.ntmps82
  go_wp2_with fail
  rw [HW.out]
  refine HC.out.mono ?_
  rintro e w2 ⟨g2, c2, rfl, hO2, hb2⟩
  have hT2 := hT.below hb2
  have hR2 := hR.below hb2
  have hB2 := hB.trans (hb2.mono hB.size)
  have hT0 : w2.heap[w.heap.size]? = some (.cells #[.int .i64 kind, .int .i64 tx, .slice a len cap] 91 (0, 0)) := hT2
  have s0 := set_cur hT0 2 (.slice (some ⟨g2, 0, none⟩) len c2)
  have hT3 : BoxR w.heap.size kind tx (.slice (some ⟨g2, 0, none⟩) len c2) (w2.setCell ⟨w.heap.size, 2, none⟩ (.slice (some ⟨g2, 0, none⟩) len c2)) := s0.1
  have hR3 := hR2.grown s0.2 (by simp)
  have hg2 := hO2.lt
  have hWl := hT.lt
  have hWl2 := hR.lt
  have hO3 := (hO2.mono hB.size).grown s0.2 (by simp; omega)
  have hB3 := hB2.grown s0.2 hB2.size (fun j e => by cases e; exact Nat.le_refl _)
  clear d0 d1 d2
  obtain ⟨d0, d1, d2⟩ := hT2.cells
  have fz2 : w2.frozen? ⟨w.heap.size, 2, none⟩ = false := by simp [World.frozen?, hT0]
  obtain ⟨W3, hW3⟩ : ∃ W3, W3 = w2.setCell ⟨w.heap.size, 2, none⟩ (.slice (some ⟨g2, 0, none⟩) len c2) := ⟨_, rfl⟩
  rw [← hW3] at hT3 hR3 hO3 hB3
  obtain ⟨t0, t1, t2⟩ := hT3.cells
  obtain ⟨r0, r1, r2⟩ := hR3.cells
  have hR0 : W3.heap[w.heap.size + 1]? = some (.cells #[.int .i64 0, .int .i64 0, .slice none 0 0] 91 (0, 0)) := hR3
  have f0 : W3.frozen? ⟨w.heap.size + 1, 0, none⟩ = false := by simp [World.frozen?, hR0]
  have f1 : W3.frozen? ⟨w.heap.size + 1, 1, none⟩ = false := by simp [World.frozen?, hR0]
  have f2 : W3.frozen? ⟨w.heap.size + 1, 2, none⟩ = false := by simp [World.frozen?, hR0]
  have z0 := set_cur hR0 0 (.int .i64 kind)
  have z1 := set_cur z0.1 1 (.int .i64 tx)
  have z2 := set_cur z1.1 2 (.slice (some ⟨g2, 0, none⟩) len c2)
  have zg := grownBy_trans (grownBy_trans z0.2 z1.2) z2.2
  have hz : BoxR (w.heap.size + 1) kind tx (.slice (some ⟨g2, 0, none⟩) len c2) _ := z2.1
  have hzc := hz.cells
  have HBz := Hid.mk' (hB3.grown zg hB3.size (fun j e => by cases e; omega))
  have HOz := Hid.mk' (hO3.grown zg (by simp; omega))
  have HW3 := Hid.mk' hW3.symm
  rw [hW3] at t0 t1 t2 r0 r1 r2 f0 f1 f2
  clear hW3 hT0 hR0 z0 z1 z2 s0
  go_wp2_with fail
  rw [HW3.out]
  refine bodyPost_ret (v := .agg #[.int .i64 kind, .int .i64 tx, .slice (some ⟨g2, 0, none⟩) len c2]) ?_ rfl ⟨_, _, rfl, HOz.out, HBz.out⟩
  simp [results, Try.results82, go_sem, hzc.1, hzc.2.1, hzc.2.2]
end Go.Proofs.Yteniflajiklffaa.recs

namespace Go.Proofs.Yteniflajiklffaa.recs
open Go Go.RowKit Go.Proofs.Yteniflajiklffaa.base Go.Proofs.Yteniflajiklffaa.pairs Go.Proofs.Yteniflajiklffaa.ords
set_option linter.unusedVariables false
set_option linter.unusedSimpArgs false

def NoKey (o : Od) (ops : List Od) : Prop := ∀ p ∈ ops, o.2.1 ≠ p.2.1
def NoKeys (os ops : List Od) : Prop := ∀ o ∈ os, NoKey o ops
theorem locked_false {held : List Rc} {ops : List Od} (h : ∀ r ∈ held, NoKeys r.2.2 ops) : locked held ops = false := by
  rw [← Bool.not_eq_true]
  intro e
  unfold locked at e
  simp only [List.any_eq_true, decide_eq_true_eq] at e
  obtain ⟨r, hr, o, ho, p, hp, e⟩ := e
  exact h r hr o ho p hp e
theorem locked_true {held : List Rc} {ops : List Od} {r : Rc} {o p : Od} (hr : r ∈ held) (ho : o ∈ r.2.2) (hp : p ∈ ops) (e : o.2.1 = p.2.1) : locked held ops = true := by
  unfold locked
  simp only [List.any_eq_true, decide_eq_true_eq]
  exact ⟨r, hr, o, ho, p, hp, e⟩
theorem all_snoc {α : Type} {P : α → Prop} {l : List α} {k : Nat} (h : k < l.length) (h1 : ∀ x ∈ l.take k, P x) (h2 : P l[k]) : ∀ x ∈ l.take (k + 1), P x := by
  intro x hx
  rw [List.take_succ_eq_append_getElem h] at hx
  rcases List.mem_append.1 hx with e | e
  · exact h1 x e
  · rw [List.mem_singleton.1 e]; exact h2

set_option maxRecDepth 100000 in
set_option maxHeartbeats 4000000 in
theorem spec_locked (a : Option Addr) (len cap : Nat) (l : List Rc) (a2 : Option Addr) (len2 cap2 : Nat) (ops : List Od) (w : World) (h : SlR w a len l) (h2 : SlO w a2 len2 ops) :
    Calls Try.prog 80 #[.slice a len cap, .slice a2 len2 cap2] w fun e w' => e = .returned (.bool (locked l ops)) ∧ Below w.heap.size w w' := by
  obtain ⟨hl, hm, hsm, hc⟩ := id h
  obtain ⟨hl2, hm2, hsm2, hc2⟩ := id h2
  subst hl hl2
  unfold maxLen at hm hm2
  generalize hR : locked l ops = R
  have HR := Hid.mk' hR
  clear hR
  go_enter Try.func80, Try.ntmps80
  go_wp2_with fail
  go_loopw [5] (fun i wr => ∃ k : Nat, k ≤ l.length ∧ i = .int .i64 (k : Int) ∧ (∀ r ∈ l.take k, NoKeys r.2.2 ops) ∧ Below w.heap.size w wr) (fun i _ => l.length - (intOf i).toNat)
  case atStart => exact ⟨0, Nat.zero_le _, rfl, by simp, Below.refl _ _⟩
  case round =>
    obtain ⟨k, hk, rfl, hno, hB⟩ := hrel
    by_cases hlt : k < l.length
    · obtain ⟨b, off, ha, _⟩ := hc (by omega)
      subst ha
      have hki : (k : Int) < (l.length : Int) := by omega
      have hat := h.at k hlt
      obtain ⟨_, _, pa, pl, pc, c2', hSo', _⟩ := hat
      have hbl : b < w.heap.size := World.block_lt_of_cell? w _ c2'
      have HC : Hid (∀ wx, Below w.heap.size w wx → wx.cell? ⟨b, off + k * 3 + 2, none⟩ = some (.slice pa pl pc)) := fun wx hx => (hx.cell (p := ⟨b, off + k * 3 + 2, none⟩) hbl).trans c2'
      have HMEM : Hid (l[k] ∈ l) := List.getElem_mem hlt
      have HSN : Hid (NoKeys l[k].2.2 ops → ∀ r ∈ l.take (k + 1), NoKeys r.2.2 ops) := fun hh => all_snoc hlt hno hh
      generalize l[k] = r at *
      obtain ⟨hpl, hpm, hps, hpc⟩ := id hSo'
      subst hpl
      unfold maxLen at hpm
      clear hno c2'
      go_wp2_with fail
      go_loopw [6] (fun i wr => ∃ j : Nat, j ≤ r.2.2.length ∧ i = .int .i64 (j : Int) ∧ NoKeys (r.2.2.take j) ops ∧ Below w.heap.size w wr) (fun i _ => r.2.2.length - (intOf i).toNat)
      case atStart => exact ⟨0, Nat.zero_le _, rfl, by intro o ho; simp at ho, hB⟩
      case round =>
        clear hB
        obtain ⟨j, hj, rfl, hnj, hB⟩ := hrel
        have c2 := HC.out _ hB
        by_cases hlj : j < r.2.2.length
        · obtain ⟨pb, po, hpa, _⟩ := hpc (by omega)
          subst hpa
          have hji : (j : Int) < (r.2.2.length : Int) := by omega
          have hcj := (hSo'.cells j hlj).2.1
          have hpb : pb < w.heap.size := World.block_lt_of_cell? w _ hcj
          have HCJ : Hid (∀ wx, Below w.heap.size w wx → wx.cell? ⟨pb, po + j * 3 + 1, none⟩ = some (.string r.2.2[j].2.1)) := fun wx hx => (hx.cell (p := ⟨pb, po + j * 3 + 1, none⟩) hpb).trans hcj
          have HIN : Hid (∀ p ∈ ops, r.2.2[j].2.1 = p.2.1 → R = true) := fun p hp e => by rw [← HR.out]; exact locked_true HMEM.out (List.getElem_mem hlj) hp e
          have HSJ : Hid (NoKey r.2.2[j] ops → NoKeys (r.2.2.take (j + 1)) ops) := fun hh => all_snoc (P := fun o => NoKey o ops) hlj hnj hh
          generalize r.2.2[j] = o at *
          clear hnj hcj
          go_wp2_with fail
          go_loopw [7] (fun i wr => ∃ q : Nat, q ≤ ops.length ∧ i = .int .i64 (q : Int) ∧ NoKey o (ops.take q) ∧ Below w.heap.size w wr) (fun i _ => ops.length - (intOf i).toNat)
          case atStart => exact ⟨0, Nat.zero_le _, rfl, by intro p hp; simp at hp, hB⟩
          case round =>
            clear hB c2
            obtain ⟨q, hq, rfl, hnq, hB⟩ := hrel
            by_cases hlq : q < ops.length
            · obtain ⟨ob, oo, hoa, _⟩ := hc2 (by omega)
              subst hoa
              have hqi : (q : Int) < (ops.length : Int) := by omega
              have hcq := (h2.cells q hlq).2.1
              have hob : ob < w.heap.size := World.block_lt_of_cell? w _ hcq
              have hbs := hB.size
              have c3 := (hB.cell (p := ⟨ob, oo + q * 3 + 1, none⟩) hob).trans hcq
              have y1 := last.On.cell (B := wr.heap.size) (HC.out _ hB) (by omega)
              have y2 := last.On.cell (B := wr.heap.size) (HCJ.out _ hB) (by omega)
              have y3 := last.On.cell (B := wr.heap.size) c3 (by omega)
              have hinh := last.On.inh wr.heap.size wr
              by_cases e : o.2.1 = ops[q].2.1
              · have HP : Hid (R = true) := HIN.out _ (List.getElem_mem hlq) e
                rw [← e] at y3
                have eb : (o.2.1.toList == o.2.1.toList) = true := by simp
                clear hnq c3 hcq e
                go_wp2_with fail
                refine last.wp_region_on wr.heap.size (by kernel_rfl) (by kernel_rfl) ?_
                repeat (go_big_quiet_step (fail))
                refine wpQuiet_nil ?_
                intro w5 hw5
                obtain ⟨x5, hw5⟩ := hw5
                have hb5 : Below wr.heap.size wr w5 := by rw [hw5]; exact x5.2
                clear hw5 x5 hinh y1 y2 y3
                go_wp2_with fail
                go_ret
                exact ⟨ret_bool HP.out.symm, hB.trans (hb5.mono hB.size)⟩
              · have HN : Hid (NoKey o (ops.take (q + 1))) := all_snoc (P := fun p : Od => o.2.1 ≠ p.2.1) hlq hnq e
                have eb : (o.2.1.toList == ops[q].2.1.toList) = false := beq_eq_false_iff_ne.2 (fun e2 => e (by
                  rw [ByteArray.toList_eq, ByteArray.toList_eq] at e2
                  exact bytes_ext e2))
                clear hnq c3 hcq e
                generalize ops[q] = p at *
                go_wp2_with fail
                refine last.wp_region_on wr.heap.size (by kernel_rfl) (by kernel_rfl) ?_
                repeat (go_big_quiet_step (fail))
                refine wpQuiet_nil ?_
                intro w5 hw5
                obtain ⟨x5, hw5⟩ := hw5
                have hb5 : Below wr.heap.size wr w5 := by rw [hw5]; exact x5.2
                clear hw5 x5 hinh y1 y2 y3
                go_wp2_with fail
                go_roundw
                case rel => exact ⟨q + 1, by omega, by go_num, HN.out, hB.trans (hb5.mono hB.size)⟩
                case measure => simp [intOf]; omega
            · have hql : ¬ (q : Int) < (ops.length : Int) := by omega
              have HN : Hid (NoKeys (r.2.2.take (j + 1)) ops) := HSJ.out (by rwa [List.take_of_length_le (by omega)] at hnq)
              go_wp2_with fail
              go_roundw
              case rel => exact ⟨j + 1, by omega, by go_num, HN.out, hB⟩
              case measure => simp [intOf]; omega
        · have hjl : ¬ (j : Int) < (r.2.2.length : Int) := by omega
          have HN : Hid (∀ r ∈ l.take (k + 1), NoKeys r.2.2 ops) := HSN.out (by rwa [List.take_of_length_le (by omega)] at hnj)
          go_wp2_with fail
          go_roundw
          case rel => exact ⟨k + 1, by omega, by go_num, HN.out, hB⟩
          case measure => simp [intOf]; omega
    · have HP : Hid (R = false) := by
        show _ = _
        rw [← HR.out]
        rw [List.take_of_length_le (by omega)] at hno
        exact locked_false hno
      go_wp2_with fail
      go_ret
      exact ⟨ret_bool HP.out.symm, hB⟩
end Go.Proofs.Yteniflajiklffaa.recs

namespace Go.Proofs.Yteniflajiklffaa.base
open Go.RowKit
set_option linter.unusedVariables false
set_option linter.unusedSimpArgs false

def Bts (w : World) (g : Nat) (s : ByteArray) : Prop := g < w.heap.size ∧ ∀ j (h : j < s.size), w.cell? ⟨g, j, none⟩ = some (.int .u8 (s[j].toNat : Int))
theorem bts_new (w : World) (s : ByteArray) : Bts (Lib.bytesWorld w 5 s) w.heap.size s := by
  refine ⟨by rw [Lib.bytesWorld_size]; omega, fun j h => ?_⟩
  rw [Lib.bytesWorld_cell w 5 s j h]; simp [List.getD, h]; rfl
theorem Bts.grown {w w' : World} {g g2 : Nat} {s : ByteArray} (h : Bts w g s) (hg : w.grownBy w' (some g2)) (hne : g ≠ g2) : Bts w' g s :=
  ⟨Nat.lt_of_lt_of_le h.1 hg.size, fun j hj => hg.cell (h.2 j hj) (by simpa using hne)⟩
theorem Bts.below {w w' : World} {g : Nat} {s : ByteArray} (h : Bts w g s) (hb : Below w.heap.size w w') : Bts w' g s :=
  ⟨Nat.lt_of_lt_of_le h.1 hb.size, fun j hj => (hb.cell (p := ⟨g, j, none⟩) h.1).trans (h.2 j hj)⟩

end Go.Proofs.Yteniflajiklffaa.base

namespace Go.Proofs.Yteniflajiklffaa.pairs
open Go Go.RowKit Go.Proofs.Yteniflajiklffaa.base
set_option linter.unusedVariables false
set_option linter.unusedSimpArgs false

set_option maxHeartbeats 400000 in
theorem i_key (p : Pr) (w : World) :
    Calls Try.prog 162 #[.agg #[.string p.1, .string p.2]] w fun e w' => e = .returned (.string p.1) ∧ w' = w.alloc (.cells #[.string p.1, .string p.2] 102) := by
  go_enter Try.func162, Try.ntmps162
  go_wp2
  go_ret
  exact ⟨rfl, rfl⟩

set_option maxHeartbeats 400000 in
theorem i_keySign (c : Nat) (w : World) (hc : c < 256) :
    Calls Try.prog 132 #[.int .u8 (c : Int)] w fun e w' => e = .returned (.bool (keyCh c)) ∧ w' = w := by
  by_cases h1 : 97 ≤ c
  · by_cases h2 : c ≤ 122
    · go_enter Try.func132, Try.ntmps132
      go_wp2
      go_ret
      exact ⟨ret_bool (by simp [keyCh, h1, h2]), rfl⟩
    · have h3 : ¬ c ≤ 57 := by omega
      have h4 : 48 ≤ c := by omega
      go_enter Try.func132, Try.ntmps132
      go_wp2
      go_ret
      exact ⟨ret_bool (by simp [keyCh, h2, h3]; omega), rfl⟩
  · by_cases h2 : 48 ≤ c
    · by_cases h3 : c ≤ 57
      · go_enter Try.func132, Try.ntmps132
        go_wp2
        go_ret
        exact ⟨ret_bool (by simp [keyCh, h2, h3]; omega), rfl⟩
      · go_enter Try.func132, Try.ntmps132
        go_wp2
        go_ret
        exact ⟨ret_bool (by simp [keyCh, h1, h3]; omega), rfl⟩
    · go_enter Try.func132, Try.ntmps132
      go_wp2
      go_ret
      exact ⟨ret_bool (by simp [keyCh, h1, h2]), rfl⟩

set_option maxRecDepth 100000 in
set_option maxHeartbeats 1000000 in
theorem impl_keyOk (s : ByteArray) (w : World) (hs : s.size ≤ 1099511627776) :
    Calls Try.prog 101 #[.string s] w fun e w' => e = .returned (.bool (keyOk s)) ∧ Below w.heap.size w w' := by
  by_cases h0 : s.size < 1
  · go_enter Try.func101, Try.ntmps101
    go_wp2_with fail
    go_ret
    exact ⟨ret_bool (by simp [keyOk]; omega), Below.refl _ _⟩
  by_cases h12 : 12 < s.size
  · go_enter Try.func101, Try.ntmps101
    go_wp2_with fail
    go_ret
    exact ⟨ret_bool (by simp [keyOk]; omega), Below.refl _ _⟩
  have HZ : Hid (decide (1 ≤ s.size ∧ s.size ≤ 12) = true) := by show _ = _; simp; omega
  generalize hR : keyAll s.data.toList = R
  have HR := Hid.mk' hR
  clear hR
  have hconv := Lib.run_convert_string_bytes (P := Try.prog) w 9 22 5 s Try.underlying9 Try.underlying22 Try.underlying5
  have hbts := bts_new w s
  have hBB := below_bytesWorld w 5 s
  go_enter Try.func101, Try.ntmps101
  go_wp2_with fail
  generalize Lib.bytesWorld w 5 s = w1 at *
  go_loop [16] (fun i => ∃ k : Nat, k ≤ s.size ∧ i = .int .i64 (k : Int) ∧ keyAll (s.data.toList.drop k) = R) (fun i => s.size - (intOf i).toNat)
  case atStart => exact ⟨0, Nat.zero_le _, rfl, HR.out⟩
  case round =>
    obtain ⟨k, hk, rfl, hr⟩ := hrel
    clear hconv
    by_cases hlt : k < s.size
    · have hst := keyAll_drop s k hlt
      rw [hr] at hst
      have hc := s[k].toNat_lt
      have hcl := hbts.2 k hlt
      generalize hC : s[k].toNat = c at *
      have hki : (k : Int) < (s.size : Int) := by omega
      have hl := i_keySign c w1 (by omega)
      cases hq : keyCh c
      · rw [hq] at hl hst
        have HF : Hid (R = false) := by show _ = _; simpa using hst
        have HL := Hid.mk' hl
        clear hl hst hr hC
        go_wp2_with fail
        refine HL.out.mono ?_
        rintro e w2 ⟨rfl, rfl⟩
        go_wp2_with fail
        go_ret
        exact ⟨ret_bool (by unfold keyOk; rw [HR.out, HF.out]; rfl), hBB⟩
      · rw [hq] at hl hst
        have HF : Hid (keyAll (s.data.toList.drop (k + 1)) = R) := by show _ = _; simpa using hst.symm
        have HL := Hid.mk' hl
        clear hl hst hr hC
        go_wp2_with fail
        refine HL.out.mono ?_
        rintro e w2 ⟨rfl, rfl⟩
        go_wp2_with fail
        go_round
        case rel => exact ⟨k + 1, by omega, by go_num, HF.out⟩
        case measure => simp [intOf]; omega
    · have HF : Hid (R = true) := by show _ = _; rw [← hr, List.drop_eq_nil_of_le (by simp; omega)]; rfl
      clear hr
      go_wp2_with fail
      go_ret
      exact ⟨ret_bool (by unfold keyOk; rw [HR.out, HF.out, HZ.out]; rfl), hBB⟩

set_option maxHeartbeats 400000 in
theorem impl_pairOk (p : Pr) (w : World) (hp : small p) (hs : p.1.size ≤ 1099511627776) :
    Calls Try.prog 100 #[.agg #[.string p.1, .string p.2]] w fun e w' => e = .returned (.bool (pairOk p)) ∧ Below w.heap.size w w' := by
  have h2 := hp.2
  unfold maxLen at h2
  have hba : Below w.heap.size w (w.alloc (.cells #[.string p.1, .string p.2] 102)) := (Below.refl _ _).alloc (Nat.le_refl _) _
  have hk := impl_keyOk p.1 (w.alloc (.cells #[.string p.1, .string p.2] 102)) hs
  cases hK : keyOk p.1
  · rw [hK] at hk
    have HK := Hid.mk' hk
    have H1 := Hid.mk' hK
    clear hk hK
    go_enter Try.func100, Try.ntmps100
    go_wp2_with fail
    refine HK.out.mono ?_
    rintro e w1 ⟨rfl, hb1⟩
    go_wp2_with fail
    go_ret
    exact ⟨ret_bool (by unfold pairOk; rw [H1.out]; rfl), hba.trans (hb1.mono hba.size)⟩
  · rw [hK] at hk
    have HK := Hid.mk' hk
    have H1 := Hid.mk' hK
    clear hk hK
    go_enter Try.func100, Try.ntmps100
    go_wp2_with fail
    refine HK.out.mono ?_
    rintro e w1 ⟨rfl, hb1⟩
    have hc := bcell hb1
    go_wp2_with fail
    go_ret
    exact ⟨ret_bool (by unfold pairOk; rw [H1.out]; simp; omega), hba.trans (hb1.mono hba.size)⟩

end Go.Proofs.Yteniflajiklffaa.pairs
