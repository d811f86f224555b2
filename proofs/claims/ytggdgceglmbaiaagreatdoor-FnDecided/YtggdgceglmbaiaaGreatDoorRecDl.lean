/- slices.DeleteFunc over records. -/
import Derived.Test.YtggdgceglmbaiaaGreatDoorRecDel
namespace Go.Proofs.YtggdgceglmbaiaaGreatDoor.recs
open Go Go.RowKit Go.Proofs.YtggdgceglmbaiaaGreatDoor.base Go.Proofs.YtggdgceglmbaiaaGreatDoor.pairs Go.Proofs.YtggdgceglmbaiaaGreatDoor.ords
set_option linter.unusedVariables false
set_option linter.unusedSimpArgs false

theorem recVals_at (l : List Rc) (hs : List Value) (h : hs.length = l.length) (i : Nat) (hi : i < l.length) :
    (recVals l hs)[i * 3]? = some (.int .i64 l[i].1) ∧ (recVals l hs)[i * 3 + 1]? = some (.int .i64 l[i].2.1) ∧ (recVals l hs)[i * 3 + 2]? = some (hs[i]'(by omega)) := by
  have hlt : (recVals (l.take i) (hs.take i)).length = i * 3 := by rw [recVals_length _ _ (by simp [h])]; simp; omega
  have hd : recVals (l.drop i) (hs.drop i) = [.int .i64 l[i].1, .int .i64 l[i].2.1, hs[i]'(by omega)] ++ recVals (l.drop (i + 1)) (hs.drop (i + 1)) := by
    unfold recVals
    rw [List.drop_eq_getElem_cons hi, List.drop_eq_getElem_cons (show i < hs.length by omega), List.zip_cons_cons, List.flatMap_cons]
  rw [recVals_split l hs h i, hd]
  refine ⟨?_, ?_, ?_⟩
  · rw [List.getElem?_append_right (by omega), hlt, Nat.sub_self]; rfl
  · rw [List.getElem?_append_right (by omega), hlt, show i * 3 + 1 - i * 3 = 1 by omega]; rfl
  · rw [List.getElem?_append_right (by omega), hlt, show i * 3 + 2 - i * 3 = 2 by omega]; rfl
theorem row_at {w : World} {g n c : Nat} {l : List Rc} {hs : List Value} (h : w.ownsRow 0 36 3 (.slice (some ⟨g, 0, none⟩) n c) n (recVals l hs)) (hl : hs.length = l.length) (i : Nat) (hi : i < l.length) :
    w.cell? ⟨g, i * 3, none⟩ = some (.int .i64 l[i].1) ∧ w.cell? ⟨g, i * 3 + 1, none⟩ = some (.int .i64 l[i].2.1) ∧ w.cell? ⟨g, i * 3 + 2, none⟩ = some (hs[i]'(by omega)) := by
  obtain ⟨h1, h2, h3⟩ := recVals_at l hs hl i hi
  have a1 := h.cells (g := g) rfl _ _ h1
  have a2 := h.cells (g := g) rfl _ _ h2
  have a3 := h.cells (g := g) rfl _ _ h3
  rw [Addr.add_lit, Nat.zero_add] at a1 a2 a3
  exact ⟨a1, a2, a3⟩
theorem row_fz {w : World} {g n c : Nat} {xs : List Value} (h : w.ownsRow 0 36 3 (.slice (some ⟨g, 0, none⟩) n c) n xs) (i : Nat) : w.frozen? ⟨g, i, none⟩ = false := by
  rcases h.2 with ⟨e, _⟩ | ⟨g', c', cur, e, hb, hg, _⟩
  · cases e
  · cases e
    simp [World.frozen?, hg]
theorem row_keep {w w' : World} {g n c : Nat} {xs : List Value} (h : w.ownsRow 0 36 3 (.slice (some ⟨g, 0, none⟩) n c) n xs) (hb : Below w.heap.size w w') : w'.ownsRow 0 36 3 (.slice (some ⟨g, 0, none⟩) n c) n xs :=
  rowR_of_block h (fun k e => hb.block k (h.lt k e).2)
theorem take_set3 (xs : List Value) (i : Nat) (u v z : Value) : (((xs.set i u).set (i + 1) v).set (i + 2) z).take i = xs.take i := by
  apply List.ext_getElem?
  intro j
  simp only [List.getElem?_take]
  split
  · rw [List.getElem?_set_ne (by omega), List.getElem?_set_ne (by omega), List.getElem?_set_ne (by omega)]
  · rfl
theorem recVals_take (l : List Rc) (hs : List Value) (h : hs.length = l.length) (p : Nat) (hp : p ≤ l.length) : (recVals l hs).take (p * 3) = recVals (l.take p) (hs.take p) := by
  have hlt : (recVals (l.take p) (hs.take p)).length = p * 3 := by rw [recVals_length _ _ (by simp [h])]; simp; omega
  rw [recVals_split l hs h p, List.take_append_of_le_length (by omega), List.take_of_length_le (by omega)]
set_option maxRecDepth 100000 in
theorem clear_rec (g o c : Nat) (w : World) (h0 : (w.cell? ⟨g, o, none⟩).isSome = true) (h1 : (w.cell? ⟨g, o + 1, none⟩).isSome = true) (h2 : (w.cell? ⟨g, o + 2, none⟩).isSome = true) (hf : ∀ i, w.frozen? ⟨g, i, none⟩ = false) :
    (Builtin.clear_ #[24] 0 #[.slice (some ⟨g, o, none⟩) 1 c]).run Tryz.prog w = .ok (.tuple #[]) (((w.setCell ⟨g, o, none⟩ (.int .i64 0)).setCell ⟨g, o + 1, none⟩ (.int .i64 0)).setCell ⟨g, o + 2, none⟩ (.slice none 0 0)) := by
  have hv : ∀ w, (zeroValue 36).run Tryz.prog w = .ok (.agg #[.int .i64 0, .int .i64 0, .slice none 0 0]) w := fun w => by kernel_rfl
  have hzc : (Builtin.zeroCells (Value.agg #[.int .i64 0, .int .i64 0, .slice none 0 0]).cells 1).toList = [.int .i64 0, .int .i64 0, .slice none 0 0] := by kernel_rfl
  have hst := run_storeCells_cells (P := Tryz.prog) g o [.int .i64 0, .int .i64 0, .slice none 0 0] 0 w (fun j hj => by
    match j, hj with
    | 0, _ => exact h0
    | 1, _ => exact h1
    | 2, _ => exact h2) (fun j hj => hf _) (fun v hv => by
    rcases List.mem_cons.1 hv with e | hv
    · rw [e]; rfl
    · rcases List.mem_cons.1 hv with e | hv
      · rw [e]; rfl
      · rw [List.mem_singleton.1 hv]; rfl)
  simp only [Nat.add_zero, World.setCells] at hst
  simp [Builtin.clear_, run_underlying Tryz.underlying24, hv, hzc, hst]
set_option maxRecDepth 100000 in
theorem i_delete_none (a : Option Addr) (n c : Nat) (l : List Rc) (rb : Nat) (kr tx : Int) (vr : Value) (w : World) (h : SlR w a n l) (hC : BoxR rb kr tx vr w) (hp : placeTx tx l = none) :
    Calls Tryz.prog 64 #[.slice a n c, .func (.func 65) #[] #[.pointer (some ⟨rb, 0, none⟩)]] w fun e w' => e = .returned (.slice a n c) ∧ Below w.heap.size w w' := by
  have HI := Hid.mk' (i_index a n c l rb kr tx vr w h hC)
  rw [hp, show atRet none = (-1 : Int) from rfl] at HI
  go_enter Tryz.func64, Tryz.ntmps64
  go_wp2_with fail
  refine HI.out.mono ?_
  rintro e w1 ⟨rfl, hb⟩
  go_wp2_with fail
  go_ret
  exact ⟨rfl, hb⟩
set_option maxRecDepth 100000 in
set_option maxHeartbeats 8000000 in
theorem i_delete_some (g n c : Nat) (l : List Rc) (hs : List Value) (rb : Nat) (kr tx : Int) (vr : Value) (w : World) (h : OwnR w 0 (.slice (some ⟨g, 0, none⟩) n c) l hs) (hC : BoxR rb kr tx vr w) (hne : rb ≠ g) (hnd : (l.map fun r => r.2.1).Nodup) (k : Nat) (hp : placeTx tx l = some k) :
    Calls Tryz.prog 64 #[.slice (some ⟨g, 0, none⟩) n c, .func (.func 65) #[] #[.pointer (some ⟨rb, 0, none⟩)]] w fun e w' => e = .returned (.slice (some ⟨g, 0, none⟩) (n - 1) c) ∧ OwnR w' 0 (.slice (some ⟨g, 0, none⟩) (n - 1) c) (l.take k ++ l.drop (k + 1)) (hs.take k ++ hs.drop (k + 1)) ∧ lay.Frame [g] w w' := by
  obtain ⟨hk, hkt⟩ := placeTx_some hp
  have hnl : n = l.length := h.nlen
  have hhl := h.len
  have hroom := h.room
  have hrow0 := h.row
  rw [← hnl] at hrow0
  have HI := Hid.mk' (i_index (some ⟨g, 0, none⟩) n c l rb kr tx vr w h.sl hC)
  rw [hp, show atRet (some k) = (k : Int) from rfl] at HI
  have hap : ∀ j (hj : j < l.length), k < j → l[j].2.1 ≠ tx := fun j hj hkj e => by
    have h1 := List.pairwise_iff_getElem.1 hnd k j (by simpa using hk) (by simpa using hj) hkj
    simp only [List.getElem_map] at h1
    exact h1 (by rw [hkt, e])
  have hsm := h.sm
  have hVs := fun i (hi : i < l.length) => (h.ops i hi).sl
  have hm63 : n ≤ 9223372036854775807 := by
    have := hroom.2
    unfold maxLen at this
    have := hroom.1
    omega
  have HNL := Hid.mk' hnl
  have hnc : n ≤ c := hroom.1
  have hkn : k < n := by omega
  clear hnl hroom
  go_enter Tryz.func64, Tryz.ntmps64
  go_wp2_with fail
  refine HI.out.mono ?_
  rintro e w1 ⟨rfl, hb⟩
  have hk1 : ((k : Int) == -1) = false := beq_eq_false_iff_ne.2 (by omega)
  have hw0 : IntKind.i64.wrap ((k : Int) + 1) = (k : Int) + 1 := wraps_i64 _ (by omega) (by omega)
  clear HI
  go_wp2_with fail
  go_loopw [5, 6] (fun vi vj wr => ∃ p : Nat, k ≤ p ∧ p + 1 ≤ n ∧ vi = .int .i64 (p : Int) ∧ vj = .int .i64 ((p : Int) + 1) ∧ wr.ownsRow 0 36 3 (.slice (some ⟨g, 0, none⟩) n c) n (recVals (shl k (p + 1) l) (shl k (p + 1) hs)) ∧ lay.Frame [g] w wr) (fun _ vj _ => n - (intOf vj).toNat)
  case atStart =>
    refine ⟨k, Nat.le_refl _, by omega, rfl, rfl, ?_, lay.Frame.of_below hb⟩
    rw [shl_start, shl_start]
    exact row_keep hrow0 hb
  case round =>
    obtain ⟨p, hkp, hpn, rfl, rfl, hrow, hf⟩ := hrel
    have hCr : BoxR rb kr tx vr wr := (hf.block rb hC.lt (fun e => hne (List.mem_singleton.1 e))).trans hC
    by_cases hlt : p + 1 < n
    · have hltl : p + 1 < l.length := by have := HNL.out; omega
      have hlt2 : p < l.length := by omega
      have hsl := shl_length (l := l) (show k < p + 1 by omega) (by omega)
      have hsh := shl_length (l := hs) (show k < p + 1 by omega) (by omega)
      obtain ⟨r0, r1, r2⟩ := row_at hrow (by omega) (p + 1) (by omega)
      obtain ⟨s0, s1, s2⟩ := row_at hrow (by omega) p (by omega)
      rw [shl_at (by omega) hltl] at r0 r1
      rw [shl_at (by omega) (by omega)] at r2
      have hfz := row_fz hrow
      have hst := shl_step (l := l) (show k < p + 1 by omega) hltl
      have hst2 := shl_step (l := hs) (show k < p + 1 by omega) (show p + 1 < hs.length by omega)
      rw [show p + 1 - 1 = p by omega] at hst hst2
      obtain ⟨pa, pc, hv, _, _⟩ := hVs (p + 1) hltl
      have htx := hap (p + 1) hltl (by omega)
      have hset := fun (wx : World) (hx : wx.ownsRow 0 36 3 (.slice (some ⟨g, 0, none⟩) n c) n (recVals (shl k (p + 1) l) (shl k (p + 1) hs))) => row_set3 hx (p * 3) (.int .i64 l[p + 1].1) (.int .i64 l[p + 1].2.1) hs[p + 1]
      have hrs := recVals_set (shl k (p + 1) l) (shl k (p + 1) hs) (by omega) p (by omega) l[p + 1] hs[p + 1]
      rw [hst, hst2] at hrs
      rw [hrs] at hset
      rw [hv] at hset r2
      have HSET := Hid.mk' hset
      have eb : (l[p + 1].2.1 == tx) = false := beq_eq_false_iff_ne.2 htx
      have hwp : IntKind.i64.wrap ((p : Int) + 1) = (p : Int) + 1 := wraps_i64 _ (by omega) (by omega)
      have hwp2 : IntKind.i64.wrap ((p : Int) + 1 + 1) = (p : Int) + 1 + 1 := wraps_i64 _ (by omega) (by omega)
      have hli : (p : Int) + 1 < (n : Int) := by omega
      generalize (shl k (p + 1) hs)[p]'(by omega) = v2 at *
      generalize (shl k (p + 1) l)[p]'(by omega) = q at *
      generalize l[p + 1].2.2.length = ol at *
      clear hst hst2 hrs hset htx hsl hsh hv
      obtain ⟨u1, hu1⟩ : ∃ u1, wr.alloc (.cells #[.int .i64 l[p + 1].1, .int .i64 l[p + 1].2.1, .slice pa ol pc] 36) = u1 := ⟨_, rfl⟩
      have hb1 : Below wr.heap.size wr u1 := by rw [← hu1]; exact (Below.refl _ _).alloc (Nat.le_refl _) _
      have hbx : BoxR wr.heap.size l[p + 1].1 l[p + 1].2.1 (.slice pa ol pc) u1 := by rw [← hu1]; exact boxR_new _ _ _ _
      have HCL := Hid.mk' (i_settled1 rb kr tx vr l[p + 1].1 l[p + 1].2.1 (.slice pa ol pc) rfl u1 (hCr.below hb1))
      rw [eb] at HCL
      generalize l[p + 1].1 = rk at *
      generalize l[p + 1].2.1 = rt at *
      have HU := Hid.mk' hu1
      obtain ⟨d0, d1, d2⟩ := hbx.cells
      rw [← hu1] at d0 d1 d2
      clear hu1
      go_wp2_with fail
      rw [HU.out]
      refine HCL.out.mono ?_
      rintro e u2 ⟨rfl, hb2⟩
      have hb12 := hb1.trans (hb2.mono hb1.size)
      clear HCL HU d0 d1 d2 r0 r1 r2
      obtain ⟨d0, d1, d2⟩ := (hbx.below hb2).cells
      have hrow2 := row_keep hrow hb12
      have e0 : u2.cell? ⟨g, p * 3, none⟩ = some (.int .i64 q.1) := (hb12.cell (p := ⟨g, p * 3, none⟩) (World.block_lt_of_cell? wr _ s0)).trans s0
      have e1 : u2.cell? ⟨g, p * 3 + 1, none⟩ = some (.int .i64 q.2.1) := (hb12.cell (p := ⟨g, p * 3 + 1, none⟩) (World.block_lt_of_cell? wr _ s1)).trans s1
      have e2 : u2.cell? ⟨g, p * 3 + 2, none⟩ = some v2 := (hb12.cell (p := ⟨g, p * 3 + 2, none⟩) (World.block_lt_of_cell? wr _ s2)).trans s2
      have z0 := row_fz hrow2 (p * 3)
      have z1 := row_fz hrow2 (p * 3 + 1)
      have z2 := row_fz hrow2 (p * 3 + 2)
      have HSZ := Hid.mk' (HSET.out u2 hrow2)
      have HFZ := Hid.mk' ((hf.below hb12).grown (HSET.out u2 hrow2).2 (fun j e => .inl (by cases e; simp)))
      have hpn2 : (p : Int) < (n : Int) := by omega
      clear hrow hf s0 s1 s2 HSET hrow2 hb1 hb2 hb12 hbx hCr hfz
      go_wp2_with fail
      go_roundw
      case rel => exact ⟨p + 1, by omega, by omega, by go_num, by go_num, HSZ.out.1, HFZ.out⟩
      case measure => simp [intOf]; omega
    · have hpe : n = p + 1 := by omega
      subst hpe
      have hnl2 : ¬ ((p : Int) + 1 < ((p + 1 : Nat) : Int)) := by omega
      have hll := HNL.out
      have hsl := shl_length (l := l) (show k < p + 1 by omega) (by omega)
      have hsh := shl_length (l := hs) (show k < p + 1 by omega) (by omega)
      obtain ⟨s0, s1, s2⟩ := row_at hrow (by omega) p (by omega)
      have hcl := clear_rec g (p * 3) (c - p) wr (by rw [s0]; rfl) (by rw [s1]; rfl) (by rw [s2]; rfl) (row_fz hrow)
      have hR3 := row_set3 hrow (p * 3) (.int .i64 0) (.int .i64 0) (.slice none 0 0)
      have hRL := row_less hR3.1 p (by omega)
      rw [take_set3, recVals_take _ _ (by omega) p (by omega)] at hRL
      have hA1 := shl_all (l := l) (k := k) (by omega)
      have hA2 := shl_all (l := hs) (k := k) (by omega)
      rw [hhl] at hA2
      rw [← hll] at hA1 hA2
      rw [show p + 1 - 1 = p by omega] at hA1 hA2
      rw [hA1, hA2] at hRL
      have hFz := hf.grown hR3.2 (fun j e => .inl (by cases e; simp))
      have HOZ := Hid.mk' (h.eraseF hFz k hk (n' := p) (by omega) hRL)
      have HFZ := Hid.mk' hFz
      have hcp : ¬ c = p := by omega
      have hcp2 : p ≤ c := by omega
      clear hRL hA1 hA2 hR3 hFz hsl hsh s0 s1 s2 hll hrow hf hCr
      go_wp2_with fail
      go_ret
      exact ⟨rfl, HOZ.out, HFZ.out⟩
end Go.Proofs.YtggdgceglmbaiaaGreatDoor.recs
