/- slices.DeleteFunc over records. The specification's shard: it crashes. The cursor from which the laws draw: what each call does to it. The specification's union. What the laws on pairs draw. What the laws on pairs draw: whole draws. Draws of pairs that are right, and a place of one. Draws of orders. Draws of orders that are right. Draws of orders that are right: some of them. Draws of records that are right. Draws of any orders. Draws of any records. Draws of shards. Draws of records, and where their transactions lie. A drawn shard with one thing changed. Shards: all is made sure. -/
import Derived.Test.YteniflajiklffaaGreatDoorShaw
import Derived.Test.YteniflajiklffaaGreatDoorShau
import Derived.Test.YteniflajiklffaaGreatDoorRows
import Derived.Test.YteniflajiklffaaGreatDoorShaa
import Derived.Test.YteniflajiklffaaGreatDoorShac
import Derived.Test.YteniflajiklffaaGreatDoorShah
import Derived.Test.YteniflajiklffaaGreatDoorShae
import Derived.Test.YteniflajiklffaaGreatDoorShat
namespace Go.Proofs.YteniflajiklffaaGreatDoor.recs
open Go Go.RowKit Go.Proofs.YteniflajiklffaaGreatDoor.base Go.Proofs.YteniflajiklffaaGreatDoor.pairs Go.Proofs.YteniflajiklffaaGreatDoor.ords
set_option linter.unusedVariables false
set_option linter.unusedSimpArgs false

theorem recVals_at (l : List Rc) (hs : List Value) (h : hs.length = l.length) (i : Nat) (hi : i < l.length) :
    (recVals l hs)[i * 3]? = some (.int .i64 l[i].1) ∧ (recVals l hs)[i * 3 + 1]? = some (.int .i64 l[i].2.1) ∧ (recVals l hs)[i * 3 + 2]? = some (hs[i]'(by omega)) := by
  have hlt : (recVals (l.take i) (hs.take i)).length = i * 3 := by rw [recVals_length _ _ (by simp [h])]; simp; omega
  have hd : recVals (l.drop i) (hs.drop i) = [.int .i64 l[i].1, .int .i64 l[i].2.1, hs[i]'(by omega)] ++ recVals (l.drop (i + 1)) (hs.drop (i + 1)) := by
    unfold recVals
    rw [List.drop_eq_getElem_cons hi, List.drop_eq_getElem_cons (show i < hs.length by omega), List.zip_cons_cons, List.flatMap_cons]
  rw [recVals_split l hs h i, hd]
  refine ⟨?_, ?_, ?_⟩
  · rw [List.getElem?_append_right (by omega), hlt, Nat.sub_self]; rfl
  · rw [List.getElem?_append_right (by omega), hlt, show i * 3 + 1 - i * 3 = 1 by omega]; rfl
  · rw [List.getElem?_append_right (by omega), hlt, show i * 3 + 2 - i * 3 = 2 by omega]; rfl
theorem row_at {w : World} {g n c : Nat} {l : List Rc} {hs : List Value} (h : w.ownsRow 0 41 3 (.slice (some ⟨g, 0, none⟩) n c) n (recVals l hs)) (hl : hs.length = l.length) (i : Nat) (hi : i < l.length) :
    w.cell? ⟨g, i * 3, none⟩ = some (.int .i64 l[i].1) ∧ w.cell? ⟨g, i * 3 + 1, none⟩ = some (.int .i64 l[i].2.1) ∧ w.cell? ⟨g, i * 3 + 2, none⟩ = some (hs[i]'(by omega)) := by
  obtain ⟨h1, h2, h3⟩ := recVals_at l hs hl i hi
  have a1 := h.cells (g := g) rfl _ _ h1
  have a2 := h.cells (g := g) rfl _ _ h2
  have a3 := h.cells (g := g) rfl _ _ h3
  rw [Addr.add_lit, Nat.zero_add] at a1 a2 a3
  exact ⟨a1, a2, a3⟩
theorem row_fz {w : World} {g n c : Nat} {xs : List Value} (h : w.ownsRow 0 41 3 (.slice (some ⟨g, 0, none⟩) n c) n xs) (i : Nat) : w.frozen? ⟨g, i, none⟩ = false := by
  rcases h.2 with ⟨e, _⟩ | ⟨g', c', cur, e, hb, hg, _⟩
  · cases e
  · cases e
    simp [World.frozen?, hg]
theorem row_keep {w w' : World} {g n c : Nat} {xs : List Value} (h : w.ownsRow 0 41 3 (.slice (some ⟨g, 0, none⟩) n c) n xs) (hb : Below w.heap.size w w') : w'.ownsRow 0 41 3 (.slice (some ⟨g, 0, none⟩) n c) n xs :=
  rowR_of_block h (fun k e => hb.block k (h.lt k e).2)
theorem take_set3 (xs : List Value) (i : Nat) (u v z : Value) : (((xs.set i u).set (i + 1) v).set (i + 2) z).take i = xs.take i := by
  apply List.ext_getElem?
  intro j
  simp only [List.getElem?_take]
  split
  · rw [List.getElem?_set_ne (by omega), List.getElem?_set_ne (by omega), List.getElem?_set_ne (by omega)]
  · rfl
theorem recVals_take (l : List Rc) (hs : List Value) (h : hs.length = l.length) (p : Nat) (hp : p ≤ l.length) : (recVals l hs).take (p * 3) = recVals (l.take p) (hs.take p) := by
  have hlt : (recVals (l.take p) (hs.take p)).length = p * 3 := by rw [recVals_length _ _ (by simp [h])]; simp; omega
  rw [recVals_split l hs h p, List.take_append_of_le_length (by omega), List.take_of_length_le (by omega)]
set_option maxRecDepth 100000 in
theorem clear_rec (g o c : Nat) (w : World) (h0 : (w.cell? ⟨g, o, none⟩).isSome = true) (h1 : (w.cell? ⟨g, o + 1, none⟩).isSome = true) (h2 : (w.cell? ⟨g, o + 2, none⟩).isSome = true) (hf : ∀ i, w.frozen? ⟨g, i, none⟩ = false) :
    (Builtin.clear_ #[24] 0 #[.slice (some ⟨g, o, none⟩) 1 c]).run Tryz.prog w = .ok (.tuple #[]) (((w.setCell ⟨g, o, none⟩ (.int .i64 0)).setCell ⟨g, o + 1, none⟩ (.int .i64 0)).setCell ⟨g, o + 2, none⟩ (.slice none 0 0)) := by
  have hv : ∀ w, (zeroValue 41).run Tryz.prog w = .ok (.agg #[.int .i64 0, .int .i64 0, .slice none 0 0]) w := fun w => by kernel_rfl
  have hzc : (Builtin.zeroCells (Value.agg #[.int .i64 0, .int .i64 0, .slice none 0 0]).cells 1).toList = [.int .i64 0, .int .i64 0, .slice none 0 0] := by kernel_rfl
  have hst := run_storeCells_cells (P := Tryz.prog) g o [.int .i64 0, .int .i64 0, .slice none 0 0] 0 w (fun j hj => by
    match j, hj with
    | 0, _ => exact h0
    | 1, _ => exact h1
    | 2, _ => exact h2) (fun j hj => hf _) (fun v hv => by
    rcases List.mem_cons.1 hv with e | hv
    · rw [e]; rfl
    · rcases List.mem_cons.1 hv with e | hv
      · rw [e]; rfl
      · rw [List.mem_singleton.1 hv]; rfl)
  simp only [Nat.add_zero, World.setCells] at hst
  simp [Builtin.clear_, run_underlying Tryz.underlying24, hv, hzc, hst]
set_option maxRecDepth 100000 in
theorem i_delete_none (a : Option Addr) (n c : Nat) (l : List Rc) (rb : Nat) (kr tx : Int) (vr : Value) (w : World) (h : SlR w a n l) (hC : BoxR rb kr tx vr w) (hp : placeTx tx l = none) :
    Calls Tryz.prog 121 #[.slice a n c, .func (.func 122) #[] #[.pointer (some ⟨rb, 0, none⟩)]] w fun e w' => e = .returned (.slice a n c) ∧ Below w.heap.size w w' := by
  have HI := Hid.mk' (i_index a n c l rb kr tx vr w h hC)
  rw [hp, show atRet none = (-1 : Int) from rfl] at HI
  go_enter Tryz.func121, Tryz.ntmps121
  go_wp2_with fail
  refine HI.out.mono ?_
  rintro e w1 ⟨rfl, hb⟩
  go_wp2_with fail
  go_ret
  exact ⟨rfl, hb⟩
set_option maxRecDepth 100000 in
set_option maxHeartbeats 8000000 in
theorem i_delete_some (g n c : Nat) (l : List Rc) (hs : List Value) (rb : Nat) (kr tx : Int) (vr : Value) (w : World) (h : OwnR w 0 (.slice (some ⟨g, 0, none⟩) n c) l hs) (hC : BoxR rb kr tx vr w) (hne : rb ≠ g) (hnd : (l.map fun r => r.2.1).Nodup) (k : Nat) (hp : placeTx tx l = some k) :
    Calls Tryz.prog 121 #[.slice (some ⟨g, 0, none⟩) n c, .func (.func 122) #[] #[.pointer (some ⟨rb, 0, none⟩)]] w fun e w' => e = .returned (.slice (some ⟨g, 0, none⟩) (n - 1) c) ∧ OwnR w' 0 (.slice (some ⟨g, 0, none⟩) (n - 1) c) (l.take k ++ l.drop (k + 1)) (hs.take k ++ hs.drop (k + 1)) ∧ lay.Frame [g] w w' := by
  obtain ⟨hk, hkt⟩ := placeTx_some hp
  have hnl : n = l.length := h.nlen
  have hhl := h.len
  have hroom := h.room
  have hrow0 := h.row
  rw [← hnl] at hrow0
  have HI := Hid.mk' (i_index (some ⟨g, 0, none⟩) n c l rb kr tx vr w h.sl hC)
  rw [hp, show atRet (some k) = (k : Int) from rfl] at HI
  have hap : ∀ j (hj : j < l.length), k < j → l[j].2.1 ≠ tx := fun j hj hkj e => by
    have h1 := List.pairwise_iff_getElem.1 hnd k j (by simpa using hk) (by simpa using hj) hkj
    simp only [List.getElem_map] at h1
    exact h1 (by rw [hkt, e])
  have hsm := h.sm
  have hVs := fun i (hi : i < l.length) => (h.ops i hi).sl
  have hm63 : n ≤ 9223372036854775807 := by
    have := hroom.2
    unfold maxLen at this
    have := hroom.1
    omega
  have HNL := Hid.mk' hnl
  have hnc : n ≤ c := hroom.1
  have hkn : k < n := by omega
  clear hnl hroom
  go_enter Tryz.func121, Tryz.ntmps121
  go_wp2_with fail
  refine HI.out.mono ?_
  rintro e w1 ⟨rfl, hb⟩
  have hk1 : ((k : Int) == -1) = false := beq_eq_false_iff_ne.2 (by omega)
  have hw0 : IntKind.i64.wrap ((k : Int) + 1) = (k : Int) + 1 := wraps_i64 _ (by omega) (by omega)
  clear HI
  go_wp2_with fail
  go_loopw [5, 6] (fun vi vj wr => ∃ p : Nat, k ≤ p ∧ p + 1 ≤ n ∧ vi = .int .i64 (p : Int) ∧ vj = .int .i64 ((p : Int) + 1) ∧ wr.ownsRow 0 41 3 (.slice (some ⟨g, 0, none⟩) n c) n (recVals (shl k (p + 1) l) (shl k (p + 1) hs)) ∧ lay.Frame [g] w wr) (fun _ vj _ => n - (intOf vj).toNat)
  case atStart =>
    refine ⟨k, Nat.le_refl _, by omega, rfl, rfl, ?_, lay.Frame.of_below hb⟩
    rw [shl_start, shl_start]
    exact row_keep hrow0 hb
  case round =>
    obtain ⟨p, hkp, hpn, rfl, rfl, hrow, hf⟩ := hrel
    have hCr : BoxR rb kr tx vr wr := (hf.block rb hC.lt (fun e => hne (List.mem_singleton.1 e))).trans hC
    by_cases hlt : p + 1 < n
    · have hltl : p + 1 < l.length := by have := HNL.out; omega
      have hlt2 : p < l.length := by omega
      have hsl := shl_length (l := l) (show k < p + 1 by omega) (by omega)
      have hsh := shl_length (l := hs) (show k < p + 1 by omega) (by omega)
      obtain ⟨r0, r1, r2⟩ := row_at hrow (by omega) (p + 1) (by omega)
      obtain ⟨s0, s1, s2⟩ := row_at hrow (by omega) p (by omega)
      rw [shl_at (by omega) hltl] at r0 r1
      rw [shl_at (by omega) (by omega)] at r2
      have hfz := row_fz hrow
      have hst := shl_step (l := l) (show k < p + 1 by omega) hltl
      have hst2 := shl_step (l := hs) (show k < p + 1 by omega) (show p + 1 < hs.length by omega)
      rw [show p + 1 - 1 = p by omega] at hst hst2
      obtain ⟨pa, pc, hv, _, _⟩ := hVs (p + 1) hltl
      have htx := hap (p + 1) hltl (by omega)
      have hset := fun (wx : World) (hx : wx.ownsRow 0 41 3 (.slice (some ⟨g, 0, none⟩) n c) n (recVals (shl k (p + 1) l) (shl k (p + 1) hs))) => row_set3 hx (p * 3) (.int .i64 l[p + 1].1) (.int .i64 l[p + 1].2.1) hs[p + 1]
      have hrs := recVals_set (shl k (p + 1) l) (shl k (p + 1) hs) (by omega) p (by omega) l[p + 1] hs[p + 1]
      rw [hst, hst2] at hrs
      rw [hrs] at hset
      rw [hv] at hset r2
      have HSET := Hid.mk' hset
      have eb : (l[p + 1].2.1 == tx) = false := beq_eq_false_iff_ne.2 htx
      have hwp : IntKind.i64.wrap ((p : Int) + 1) = (p : Int) + 1 := wraps_i64 _ (by omega) (by omega)
      have hwp2 : IntKind.i64.wrap ((p : Int) + 1 + 1) = (p : Int) + 1 + 1 := wraps_i64 _ (by omega) (by omega)
      have hli : (p : Int) + 1 < (n : Int) := by omega
      generalize (shl k (p + 1) hs)[p]'(by omega) = v2 at *
      generalize (shl k (p + 1) l)[p]'(by omega) = q at *
      generalize l[p + 1].2.2.length = ol at *
      clear hst hst2 hrs hset htx hsl hsh hv
      obtain ⟨u1, hu1⟩ : ∃ u1, wr.alloc (.cells #[.int .i64 l[p + 1].1, .int .i64 l[p + 1].2.1, .slice pa ol pc] 41) = u1 := ⟨_, rfl⟩
      have hb1 : Below wr.heap.size wr u1 := by rw [← hu1]; exact (Below.refl _ _).alloc (Nat.le_refl _) _
      have hbx : BoxR wr.heap.size l[p + 1].1 l[p + 1].2.1 (.slice pa ol pc) u1 := by rw [← hu1]; exact boxR_new _ _ _ _
      have HCL := Hid.mk' (i_settled1 rb kr tx vr l[p + 1].1 l[p + 1].2.1 (.slice pa ol pc) rfl u1 (hCr.below hb1))
      rw [eb] at HCL
      generalize l[p + 1].1 = rk at *
      generalize l[p + 1].2.1 = rt at *
      have HU := Hid.mk' hu1
      obtain ⟨d0, d1, d2⟩ := hbx.cells
      rw [← hu1] at d0 d1 d2
      clear hu1
      go_wp2_with fail
      rw [HU.out]
      refine HCL.out.mono ?_
      rintro e u2 ⟨rfl, hb2⟩
      have hb12 := hb1.trans (hb2.mono hb1.size)
      clear HCL HU d0 d1 d2 r0 r1 r2
      obtain ⟨d0, d1, d2⟩ := (hbx.below hb2).cells
      have hrow2 := row_keep hrow hb12
      have e0 : u2.cell? ⟨g, p * 3, none⟩ = some (.int .i64 q.1) := (hb12.cell (p := ⟨g, p * 3, none⟩) (World.block_lt_of_cell? wr _ s0)).trans s0
      have e1 : u2.cell? ⟨g, p * 3 + 1, none⟩ = some (.int .i64 q.2.1) := (hb12.cell (p := ⟨g, p * 3 + 1, none⟩) (World.block_lt_of_cell? wr _ s1)).trans s1
      have e2 : u2.cell? ⟨g, p * 3 + 2, none⟩ = some v2 := (hb12.cell (p := ⟨g, p * 3 + 2, none⟩) (World.block_lt_of_cell? wr _ s2)).trans s2
      have z0 := row_fz hrow2 (p * 3)
      have z1 := row_fz hrow2 (p * 3 + 1)
      have z2 := row_fz hrow2 (p * 3 + 2)
      have HSZ := Hid.mk' (HSET.out u2 hrow2)
      have HFZ := Hid.mk' ((hf.below hb12).grown (HSET.out u2 hrow2).2 (fun j e => .inl (by cases e; simp)))
      have hpn2 : (p : Int) < (n : Int) := by omega
      clear hrow hf s0 s1 s2 HSET hrow2 hb1 hb2 hb12 hbx hCr hfz
      go_wp2_with fail
      go_roundw
      case rel => exact ⟨p + 1, by omega, by omega, by go_num, by go_num, HSZ.out.1, HFZ.out⟩
      case measure => simp [intOf]; omega
    · have hpe : n = p + 1 := by omega
      subst hpe
      have hnl2 : ¬ ((p : Int) + 1 < ((p + 1 : Nat) : Int)) := by omega
      have hll := HNL.out
      have hsl := shl_length (l := l) (show k < p + 1 by omega) (by omega)
      have hsh := shl_length (l := hs) (show k < p + 1 by omega) (by omega)
      obtain ⟨s0, s1, s2⟩ := row_at hrow (by omega) p (by omega)
      have hcl := clear_rec g (p * 3) (c - p) wr (by rw [s0]; rfl) (by rw [s1]; rfl) (by rw [s2]; rfl) (row_fz hrow)
      have hR3 := row_set3 hrow (p * 3) (.int .i64 0) (.int .i64 0) (.slice none 0 0)
      have hRL := row_less hR3.1 p (by omega)
      rw [take_set3, recVals_take _ _ (by omega) p (by omega)] at hRL
      have hA1 := shl_all (l := l) (k := k) (by omega)
      have hA2 := shl_all (l := hs) (k := k) (by omega)
      rw [hhl] at hA2
      rw [← hll] at hA1 hA2
      rw [show p + 1 - 1 = p by omega] at hA1 hA2
      rw [hA1, hA2] at hRL
      have hFz := hf.grown hR3.2 (fun j e => .inl (by cases e; simp))
      have HOZ := Hid.mk' (h.eraseF hFz k hk (n' := p) (by omega) hRL)
      have HFZ := Hid.mk' hFz
      have hcp : ¬ c = p := by omega
      have hcp2 : p ≤ c := by omega
      clear hRL hA1 hA2 hR3 hFz hsl hsh s0 s1 s2 hll hrow hf hCr
      go_wp2_with fail
      go_ret
      exact ⟨rfl, HOZ.out, HFZ.out⟩
end Go.Proofs.YteniflajiklffaaGreatDoor.recs

namespace Go.Proofs.YteniflajiklffaaGreatDoor.recs
open Go Go.RowKit Go.Proofs.YteniflajiklffaaGreatDoor.base Go.Proofs.YteniflajiklffaaGreatDoor.pairs Go.Proofs.YteniflajiklffaaGreatDoor.ords Go.Proofs.YteniflajiklffaaGreatDoor.helps Go.Proofs.YteniflajiklffaaGreatDoor.help Go.Proofs.YteniflajiklffaaGreatDoor.lay
set_option linter.unusedVariables false
set_option linter.unusedSimpArgs false

end Go.Proofs.YteniflajiklffaaGreatDoor.recs

namespace Go.Proofs.YteniflajiklffaaGreatDoor.draw
open Go.RowKit Go.Proofs.YteniflajiklffaaGreatDoor.base
set_option linter.unusedVariables false
set_option linter.unusedSimpArgs false

end Go.Proofs.YteniflajiklffaaGreatDoor.draw

namespace Go.Proofs.YteniflajiklffaaGreatDoor.pairs
open Go Go.RowKit Go.Proofs.YteniflajiklffaaGreatDoor.base
set_option linter.unusedVariables false
set_option linter.unusedSimpArgs false

end Go.Proofs.YteniflajiklffaaGreatDoor.pairs

namespace Go.Proofs.YteniflajiklffaaGreatDoor.pairs
open Go Go.RowKit Go.Proofs.YteniflajiklffaaGreatDoor.base Go.Proofs.YteniflajiklffaaGreatDoor.draw
set_option linter.unusedVariables false
set_option linter.unusedSimpArgs false

end Go.Proofs.YteniflajiklffaaGreatDoor.pairs

namespace Go.Proofs.YteniflajiklffaaGreatDoor.pairs
open Go Go.RowKit Go.Proofs.YteniflajiklffaaGreatDoor.base Go.Proofs.YteniflajiklffaaGreatDoor.draw
set_option linter.unusedVariables false
set_option linter.unusedSimpArgs false



end Go.Proofs.YteniflajiklffaaGreatDoor.pairs

namespace Go.Proofs.YteniflajiklffaaGreatDoor.pairs
open Go Go.RowKit Go.Proofs.YteniflajiklffaaGreatDoor.base Go.Proofs.YteniflajiklffaaGreatDoor.draw
set_option linter.unusedVariables false
set_option linter.unusedSimpArgs false

end Go.Proofs.YteniflajiklffaaGreatDoor.pairs

namespace Go.Proofs.YteniflajiklffaaGreatDoor.ords
open Go Go.RowKit Go.Proofs.YteniflajiklffaaGreatDoor.base Go.Proofs.YteniflajiklffaaGreatDoor.pairs Go.Proofs.YteniflajiklffaaGreatDoor.draw
set_option linter.unusedVariables false
set_option linter.unusedSimpArgs false

end Go.Proofs.YteniflajiklffaaGreatDoor.ords

namespace Go.Proofs.YteniflajiklffaaGreatDoor.ords
open Go Go.RowKit Go.Proofs.YteniflajiklffaaGreatDoor.base Go.Proofs.YteniflajiklffaaGreatDoor.pairs Go.Proofs.YteniflajiklffaaGreatDoor.draw
set_option linter.unusedVariables false
set_option linter.unusedSimpArgs false

end Go.Proofs.YteniflajiklffaaGreatDoor.ords

namespace Go.Proofs.YteniflajiklffaaGreatDoor.ords
open Go Go.RowKit Go.Proofs.YteniflajiklffaaGreatDoor.base Go.Proofs.YteniflajiklffaaGreatDoor.pairs Go.Proofs.YteniflajiklffaaGreatDoor.draw
set_option linter.unusedVariables false
set_option linter.unusedSimpArgs false

end Go.Proofs.YteniflajiklffaaGreatDoor.ords

namespace Go.Proofs.YteniflajiklffaaGreatDoor.recs
open Go Go.RowKit Go.Proofs.YteniflajiklffaaGreatDoor.base Go.Proofs.YteniflajiklffaaGreatDoor.pairs Go.Proofs.YteniflajiklffaaGreatDoor.draw Go.Proofs.YteniflajiklffaaGreatDoor.ords
set_option linter.unusedVariables false
set_option linter.unusedSimpArgs false

end Go.Proofs.YteniflajiklffaaGreatDoor.recs

namespace Go.Proofs.YteniflajiklffaaGreatDoor.ords
open Go Go.RowKit Go.Proofs.YteniflajiklffaaGreatDoor.base Go.Proofs.YteniflajiklffaaGreatDoor.pairs Go.Proofs.YteniflajiklffaaGreatDoor.draw
set_option linter.unusedVariables false
set_option linter.unusedSimpArgs false

def tinyO (o : Od) : Prop := 0 ≤ o.1 ∧ o.1 ≤ 5 ∧ o.2.1.size ≤ 13 ∧ o.2.2.size ≤ 21
theorem tinyO_ok {o : Od} (h : odOk o = true) : tinyO o := by
  obtain ⟨h1, _, h3, h4⟩ := (odOk_iff o).1 h
  have := keyOk_size h3
  exact ⟨by omega, by omega, by omega, by omega⟩
theorem OwnO.none {w : World} {base g n cap : Nat} {l : List Od} (h : OwnO w base g n cap l) : OwnO w base g 0 cap [] := by
  refine ⟨rfl, fun p hp => absurd hp List.not_mem_nil, rfl, ?_⟩
  rcases h.2.2.2 with ⟨h', _⟩ | ⟨g', cap', cur, h', h0, hg, h1, h2, h3, h4⟩
  · simp at h'
  · simp only [Value.slice.injEq, Option.some.injEq, Addr.mk.injEq, and_true, true_and] at h'
    obtain ⟨rfl, rfl⟩ := h'
    exact .inr ⟨g, cap, cur, rfl, h0, hg, Nat.zero_le _, h2, h3, by simp [ordVals]⟩
end Go.Proofs.YteniflajiklffaaGreatDoor.ords

namespace Go.Proofs.YteniflajiklffaaGreatDoor.recs
open Go Go.RowKit Go.Proofs.YteniflajiklffaaGreatDoor.base Go.Proofs.YteniflajiklffaaGreatDoor.pairs Go.Proofs.YteniflajiklffaaGreatDoor.draw Go.Proofs.YteniflajiklffaaGreatDoor.ords
set_option linter.unusedVariables false
set_option linter.unusedSimpArgs false

end Go.Proofs.YteniflajiklffaaGreatDoor.recs

namespace Go.Proofs.YteniflajiklffaaGreatDoor.recs
open Go Go.RowKit Go.Proofs.YteniflajiklffaaGreatDoor.base Go.Proofs.YteniflajiklffaaGreatDoor.pairs Go.Proofs.YteniflajiklffaaGreatDoor.ords Go.Proofs.YteniflajiklffaaGreatDoor.helps Go.Proofs.YteniflajiklffaaGreatDoor.help Go.Proofs.YteniflajiklffaaGreatDoor.lay Go.Proofs.YteniflajiklffaaGreatDoor.draw
set_option linter.unusedVariables false
set_option linter.unusedSimpArgs false

theorem Right.few {s : Shd} (h : Right s) : Few s.2.1 := fun r hr => by
  rcases ((recOk_iff r).1 (h.recOk r hr)).2 with ⟨_, h2⟩ | ⟨_, h2⟩
  · refine ⟨by have := ((opsOk_iff _).1 h2).2.2; omega, fun p hp => ?_⟩
    have := (tinyO_ok (((opsOk_iff _).1 h2).1.1 p hp)).2.2.1
    omega
  · rw [h2]; exact ⟨by simp, fun p hp => absurd hp List.not_mem_nil⟩
theorem Right.fewH {s : Shd} (h : Right s) : Few s.2.2.2.2 := fun r hr => h.few r (h.held_tx r hr).1
section
variable {w0 w wr w' : World} {gc : Nat} {a : Option Addr} {len cap : Nat} {code : List UInt8} {RB X : Nat} {la ma ha : Option Addr} {ln lc mn mc hn hc : Nat} {s s' : Shd} {F : List Nat}
end
end Go.Proofs.YteniflajiklffaaGreatDoor.recs

namespace Go.Proofs.YteniflajiklffaaGreatDoor.recs
open Go Go.RowKit Go.Proofs.YteniflajiklffaaGreatDoor.base Go.Proofs.YteniflajiklffaaGreatDoor.pairs Go.Proofs.YteniflajiklffaaGreatDoor.draw Go.Proofs.YteniflajiklffaaGreatDoor.ords
set_option linter.unusedVariables false
set_option linter.unusedSimpArgs false

end Go.Proofs.YteniflajiklffaaGreatDoor.recs

namespace Go.Proofs.YteniflajiklffaaGreatDoor.recs
open Go Go.RowKit Go.Proofs.YteniflajiklffaaGreatDoor.base Go.Proofs.YteniflajiklffaaGreatDoor.pairs Go.Proofs.YteniflajiklffaaGreatDoor.ords Go.Proofs.YteniflajiklffaaGreatDoor.helps Go.Proofs.YteniflajiklffaaGreatDoor.help Go.Proofs.YteniflajiklffaaGreatDoor.lay Go.Proofs.YteniflajiklffaaGreatDoor.draw
set_option linter.unusedVariables false
set_option linter.unusedSimpArgs false

/-! ### what is written into a shard that lies in a block -/
section
variable {w w' : World} {X : Nat} {T : TypeId} {pre post : List Value} {la ma ha : Option Addr} {ln lc mn mc hn hc : Nat} {s : Shd} {F : List Nat}
theorem InSh.putMap {w8 : World} {g8 n8 c8 : Nat} {m8 : List Pr} (h : InSh w X T pre post la ln lc ma mn mc ha hn hc s F) (hg : w.grownBy w8 (Value.slice ma mn mc).ownBlock) (hO8 : OwnPV w8 (some ⟨g8, 0, none⟩) n8 c8 m8) (hat : (Value.slice ma mn mc).ownBlock = some g8 ∨ (g8 ∉ F ∧ g8 ≠ X)) :
    ∃ F', InSh (w8.setCell ⟨X, pre.length + 3, none⟩ (.slice (some ⟨g8, 0, none⟩) n8 c8)) X T pre post la ln lc (some ⟨g8, 0, none⟩) n8 c8 ha hn hc (s.1, s.2.1, s.2.2.1, m8, s.2.2.2.2) F' ∧ lay.Frame (X :: F) w (w8.setCell ⟨X, pre.length + 3, none⟩ (.slice (some ⟨g8, 0, none⟩) n8 c8)) ∧ ∀ k ∈ F', k ∈ F ∨ k = g8 := by
  obtain ⟨hl, hOL, hh, hOH, hFe⟩ := h.own.log
  have hnd := h.own.nodup
  have hXF := h.out
  have hmF : ∀ k, (Value.slice ma mn mc).ownBlock = some k → k ∈ F := fun k e => by rw [hFe]; exact List.mem_append.2 (.inr (List.mem_append.2 (.inl (by simp [e]))))
  have hLF : ∀ k, BlkR (.slice la ln lc) hl k → k ∈ F := fun k e => by rw [hFe]; exact List.mem_append.2 (.inl (mem_blkR.2 e))
  have hHF : ∀ k, BlkR (.slice ha hn hc) hh k → k ∈ F := fun k e => by rw [hFe]; exact List.mem_append.2 (.inr (List.mem_append.2 (.inr (mem_blkR.2 e))))
  have hnd0 := hnd
  rw [hFe] at hnd
  obtain ⟨n1, n2, n3⟩ := nodup_parts hnd
  obtain ⟨n4, n5, n6⟩ := nodup_parts n2
  have hLm : ∀ k, BlkR (.slice la ln lc) hl k → (Value.slice ma mn mc).ownBlock ≠ some k := fun k e e2 => n3 k (mem_blkR.2 e) (List.mem_append.2 (.inl (by simp [e2])))
  have hHm : ∀ k, BlkR (.slice ha hn hc) hh k → (Value.slice ma mn mc).ownBlock ≠ some k := fun k e e2 => n6 k (by simp [e2]) (mem_blkR.2 e)
  have hb8 := h.box.grown hg (fun e => hXF (hmF X e.symm))
  have hOL8 := hOL.of_blocks fun k hk => hg.block k (hOL.lt k hk).2 (fun e => hLm k hk e.symm)
  have hOH8 := hOH.of_blocks fun k hk => hg.block k (hOH.lt k hk).2 (fun e => hHm k hk e.symm)
  have c := hb8.set 3 (by simp [shVals]) (.slice (some ⟨g8, 0, none⟩) n8 c8)
  have hgX : g8 ≠ X := by
    rcases hat with e | e
    · exact fun e2 => hXF (hmF X (by rw [← e2]; exact e))
    · exact e.2
  have hOL9 := hOL8.of_blocks fun k hk => c.2.block k (hOL8.lt k hk).2 (fun e => hXF (by rw [← Option.some.inj e]; exact hLF k hk))
  have hOH9 := hOH8.of_blocks fun k hk => c.2.block k (hOH8.lt k hk).2 (fun e => hXF (by rw [← Option.some.inj e]; exact hHF k hk))
  have hOM9 := hO8.of_block fun k hk => c.2.block k (hO8.lt k hk) (fun e => hgX (by
    have e2 : g8 = k := by have q := hk; simp [Value.ownBlock] at q; omega
    rw [e2]; exact Option.some.inj e))
  refine ⟨blkR (.slice la ln lc) hl ++ ((Value.slice (some ⟨g8, 0, none⟩) n8 c8).ownBlock.toList ++ blkR (.slice ha hn hc) hh), ⟨c.1, ⟨h.own.id, h.own.sure, ⟨hl, hOL9, hh, hOH9, rfl⟩, hOM9, ?_⟩, ?_⟩, ?_, ?_⟩
  · have hg8n : ∀ k, k ∈ blkR (.slice la ln lc) hl ∨ k ∈ blkR (.slice ha hn hc) hh → k ≠ g8 := fun k hk e => by
      rcases hat with e2 | e2
      · rcases hk with e3 | e3
        · exact hLm k (mem_blkR.1 e3) (by rw [e]; exact e2)
        · exact hHm k (mem_blkR.1 e3) (by rw [e]; exact e2)
      · rcases hk with e3 | e3
        · exact e2.1 (by rw [← e]; exact hLF k (mem_blkR.1 e3))
        · exact e2.1 (by rw [← e]; exact hHF k (mem_blkR.1 e3))
    refine nodup_mk n1 (nodup_mk (by simp [Value.ownBlock]) n5 (fun k hk hk2 => ?_)) (fun k hk hk2 => ?_)
    · have e2 : g8 = k := by have q := hk; simp [Value.ownBlock] at q; omega
      exact hg8n k (.inr hk2) e2.symm
    · rcases List.mem_append.1 hk2 with e3 | e3
      · have e2 : g8 = k := by have q := e3; simp [Value.ownBlock] at q; omega
        exact hg8n k (.inl hk) e2.symm
      · exact n3 k hk (List.mem_append.2 (.inr e3))
  · intro e
    rcases List.mem_append.1 e with e3 | e3
    · exact hXF (hLF X (mem_blkR.1 e3))
    · rcases List.mem_append.1 e3 with e3 | e3
      · have e2 : g8 = X := by have q := e3; simp [Value.ownBlock] at q; omega
        exact hgX e2
      · exact hXF (hHF X (mem_blkR.1 e3))
  · exact ((lay.Frame.refl (X :: F) w).grown hg (fun k e => .inl (List.mem_cons_of_mem _ (hmF k e)))).grown c.2 (fun k e => .inl (by rw [← Option.some.inj e]; exact List.mem_cons_self))
  · intro k hk
    rcases List.mem_append.1 hk with e3 | e3
    · exact .inl (hLF k (mem_blkR.1 e3))
    · rcases List.mem_append.1 e3 with e3 | e3
      · have e2 : g8 = k := by have q := e3; simp [Value.ownBlock] at q; omega
        exact .inr e2.symm
      · exact .inl (hHF k (mem_blkR.1 e3))
theorem InSh.putLog {w8 : World} {g8 n8 c8 : Nat} {v : Value} {r : Rc} {hl hh : List Value} (h : InSh w X T pre post la ln lc ma mn mc ha hn hc s F) (hOL : OwnR w 0 (.slice la ln lc) s.2.1 hl) (hOH : OwnR w 0 (.slice ha hn hc) s.2.2.2.2 hh) (hFe : F = blkR (.slice la ln lc) hl ++ ((Value.slice ma mn mc).ownBlock.toList ++ blkR (.slice ha hn hc) hh))
    (hv : ∀ j, v.ownBlock = some j → j ∉ F ∧ j ≠ X) (hg : w.grownBy w8 (Value.slice la ln lc).ownBlock) (hO8 : OwnR w8 0 (.slice (some ⟨g8, 0, none⟩) n8 c8) (s.2.1 ++ [r]) (hl ++ [v])) (hat : (Value.slice la ln lc).ownBlock = some g8 ∨ g8 = w.heap.size) :
    ∃ F', InSh (w8.setCell ⟨X, pre.length + 1, none⟩ (.slice (some ⟨g8, 0, none⟩) n8 c8)) X T pre post (some ⟨g8, 0, none⟩) n8 c8 ma mn mc ha hn hc (s.1, s.2.1 ++ [r], s.2.2.1, s.2.2.2.1, s.2.2.2.2) F' ∧ lay.Frame (X :: F) w (w8.setCell ⟨X, pre.length + 1, none⟩ (.slice (some ⟨g8, 0, none⟩) n8 c8)) ∧ ∀ k ∈ F', k ∈ F ∨ v.ownBlock = some k ∨ w.heap.size ≤ k := by
  have hOM := h.own.map
  have hnd := h.own.nodup
  have hXF := h.out
  have hFlt := h.own.lt
  have hXl := h.box.lt
  have hmF : ∀ k, (Value.slice ma mn mc).ownBlock = some k → k ∈ F := fun k e => by rw [hFe]; exact List.mem_append.2 (.inr (List.mem_append.2 (.inl (by simp [e]))))
  have hLF : ∀ k, BlkR (.slice la ln lc) hl k → k ∈ F := fun k e => by rw [hFe]; exact List.mem_append.2 (.inl (mem_blkR.2 e))
  have hHF : ∀ k, BlkR (.slice ha hn hc) hh k → k ∈ F := fun k e => by rw [hFe]; exact List.mem_append.2 (.inr (List.mem_append.2 (.inr (mem_blkR.2 e))))
  rw [hFe] at hnd
  obtain ⟨n1, n2, n3⟩ := nodup_parts hnd
  have hLm : ∀ k, (Value.slice la ln lc).ownBlock = some k → (Value.slice ma mn mc).ownBlock ≠ some k := fun k e e2 => n3 k (mem_blkR.2 (.inl e)) (List.mem_append.2 (.inl (by simp [e2])))
  have hLh : ∀ k, (Value.slice la ln lc).ownBlock = some k → ¬ BlkR (.slice ha hn hc) hh k := fun k e e2 => n3 k (mem_blkR.2 (.inl e)) (List.mem_append.2 (.inr (mem_blkR.2 e2)))
  have hb8 := h.box.grown hg (fun e => hXF (hLF X (.inl e.symm)))
  have hOM8 := hOM.of_block fun k hk => hg.block k (hOM.lt k hk) (fun e => hLm k e.symm hk)
  have hOH8 := hOH.of_blocks fun k hk => hg.block k (hOH.lt k hk).2 (fun e => hLh k e.symm hk)
  have c := hb8.set 1 (by simp [shVals]) (.slice (some ⟨g8, 0, none⟩) n8 c8)
  have hg8 : g8 ∈ F ∧ BlkR (.slice la ln lc) hl g8 ∨ g8 = w.heap.size := hat.imp_left (fun e => ⟨hLF g8 (.inl e), .inl e⟩)
  have hL8 : ∀ k, BlkR (.slice (some ⟨g8, 0, none⟩) n8 c8) (hl ++ [v]) k → BlkR (.slice la ln lc) hl k ∨ v.ownBlock = some k ∨ k = w.heap.size := fun k hk => by
    rcases hk with e | ⟨y, hy, e⟩
    · have e2 : g8 = k := by simpa [Value.ownBlock] using e
      rcases hg8 with e3 | e3
      · exact .inl (by rw [← e2]; exact e3.2)
      · exact .inr (.inr (by omega))
    · rcases List.mem_append.1 hy with e2 | e2
      · exact .inl (.inr ⟨y, e2, e⟩)
      · rw [List.mem_singleton.1 e2] at e
        exact .inr (.inl e)
  have hLX : ∀ k, BlkR (.slice (some ⟨g8, 0, none⟩) n8 c8) (hl ++ [v]) k → k ≠ X := fun k hk e => by
    rcases hL8 k hk with e2 | e2 | e2
    · exact hXF (by rw [← e]; exact hLF k e2)
    · exact (hv k e2).2 e
    · omega
  have hOL9 := hO8.of_blocks fun k hk => c.2.block k (hO8.lt k hk).2 (fun e => hLX k hk (Option.some.inj e))
  have hOH9 := hOH8.of_blocks fun k hk => c.2.block k (hOH8.lt k hk).2 (fun e => hXF (by rw [← Option.some.inj e]; exact hHF k hk))
  have hOM9 := hOM8.of_block fun k hk => c.2.block k (hOM8.lt k hk) (fun e => hXF (by rw [← Option.some.inj e]; exact hmF k hk))
  have hnd8 : (blkR (.slice (some ⟨g8, 0, none⟩) n8 c8) (hl ++ [v])).Nodup := by
    have := recs_own.2 ⟨_, hOL9, rfl⟩
    exact recsR.ownNodup this
  refine ⟨blkR (.slice (some ⟨g8, 0, none⟩) n8 c8) (hl ++ [v]) ++ ((Value.slice ma mn mc).ownBlock.toList ++ blkR (.slice ha hn hc) hh), ⟨c.1, ⟨h.own.id, h.own.sure, ⟨_, hOL9, hh, hOH9, rfl⟩, hOM9, ?_⟩, ?_⟩, ?_, ?_⟩
  · refine nodup_mk hnd8 n2 (fun k hk hk2 => ?_)
    have hkF : k ∈ F := by
      rcases List.mem_append.1 hk2 with e3 | e3
      · exact hmF k (by simpa using e3)
      · exact hHF k (mem_blkR.1 e3)
    rcases hL8 k (mem_blkR.1 hk) with e2 | e2 | e2
    · exact n3 k (mem_blkR.2 e2) hk2
    · exact (hv k e2).1 hkF
    · have := hFlt k hkF; omega
  · intro e
    rcases List.mem_append.1 e with e3 | e3
    · exact hLX X (mem_blkR.1 e3) rfl
    · rcases List.mem_append.1 e3 with e3 | e3
      · exact hXF (hmF X (by simpa using e3))
      · exact hXF (hHF X (mem_blkR.1 e3))
  · exact ((lay.Frame.refl (X :: F) w).grown hg (fun k e => .inl (List.mem_cons_of_mem _ (hLF k (.inl e))))).grown c.2 (fun k e => .inl (by rw [← Option.some.inj e]; exact List.mem_cons_self))
  · intro k hk
    rcases List.mem_append.1 hk with e3 | e3
    · rcases hL8 k (mem_blkR.1 e3) with e2 | e2 | e2
      · exact .inl (hLF k e2)
      · exact .inr (.inl e2)
      · exact .inr (.inr (by omega))
    · rcases List.mem_append.1 e3 with e3 | e3
      · exact .inl (hmF k (by simpa using e3))
      · exact .inl (hHF k (mem_blkR.1 e3))
end
section
variable {w0 w wr w' : World} {gc : Nat} {a : Option Addr} {len cap : Nat} {code : List UInt8} {RB X : Nat} {la ma ha : Option Addr} {ln lc mn mc hn hc : Nat} {s s' : Shd} {F F' : List Nat} {la' ma' ha' : Option Addr} {ln' lc' mn' mc' hn' hc' : Nat}
end
end Go.Proofs.YteniflajiklffaaGreatDoor.recs

namespace Go.Proofs.YteniflajiklffaaGreatDoor.recs
open Go Go.RowKit Go.Proofs.YteniflajiklffaaGreatDoor.base Go.Proofs.YteniflajiklffaaGreatDoor.pairs Go.Proofs.YteniflajiklffaaGreatDoor.ords Go.Proofs.YteniflajiklffaaGreatDoor.helps Go.Proofs.YteniflajiklffaaGreatDoor.help Go.Proofs.YteniflajiklffaaGreatDoor.lay
set_option linter.unusedVariables false
set_option linter.unusedSimpArgs false

theorem retSh_mk {w w' : World} {la ma ha : Option Addr} {ln lc mn mc hn hc : Nat} {s : Shd} {F : List Nat} (h : OwnSh w' la ln lc ma mn mc ha hn hc s F) (hF : ∀ k ∈ F, w.heap.size ≤ k) (hb : Below w.heap.size w w') : RetSh w s (.returned (aggSh s.1 s.2.2.1 la ln lc ma mn mc ha hn hc)) w' :=
  ⟨la, ln, lc, ma, mn, mc, ha, hn, hc, F, rfl, h, hF, hb⟩
end Go.Proofs.YteniflajiklffaaGreatDoor.recs
