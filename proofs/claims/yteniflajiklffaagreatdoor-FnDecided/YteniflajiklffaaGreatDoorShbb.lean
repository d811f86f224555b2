/- slices.DeleteFunc over records. Shards: all is made sure. The program's shard: a record is written, what was held is held no more. The program's Apply where the pairs are nil: a shard that is new has none. -/
import Derived.Test.YteniflajiklffaaGreatDoorShba
import Derived.Test.YteniflajiklffaaGreatDoorShav
import Derived.Test.YteniflajiklffaaGreatDoorShaz
import Derived.Test.YteniflajiklffaaGreatDoorShaw
import Derived.Test.YteniflajiklffaaGreatDoorShaf
import Derived.Laws.AppendOwnNone
namespace Go.Proofs.YteniflajiklffaaGreatDoor.recs
open Go Go.RowKit Go.Proofs.YteniflajiklffaaGreatDoor.base Go.Proofs.YteniflajiklffaaGreatDoor.pairs Go.Proofs.YteniflajiklffaaGreatDoor.ords
set_option linter.unusedVariables false
set_option linter.unusedSimpArgs false

theorem recVals_at (l : List Rc) (hs : List Value) (h : hs.length = l.length) (i : Nat) (hi : i < l.length) :
    (recVals l hs)[i * 3]? = some (.int .i64 l[i].1) ∧ (recVals l hs)[i * 3 + 1]? = some (.int .i64 l[i].2.1) ∧ (recVals l hs)[i * 3 + 2]? = some (hs[i]'(by omega)) := by
  have hlt : (recVals (l.take i) (hs.take i)).length = i * 3 := by rw [recVals_length _ _ (by simp [h])]; simp; omega
  have hd : recVals (l.drop i) (hs.drop i) = [.int .i64 l[i].1, .int .i64 l[i].2.1, hs[i]'(by omega)] ++ recVals (l.drop (i + 1)) (hs.drop (i + 1)) := by
    unfold recVals
    rw [List.drop_eq_getElem_cons hi, List.drop_eq_getElem_cons (show i < hs.length by omega), List.zip_cons_cons, List.flatMap_cons]
  rw [recVals_split l hs h i, hd]
  refine ⟨?_, ?_, ?_⟩
  · rw [List.getElem?_append_right (by omega), hlt, Nat.sub_self]; rfl
  · rw [List.getElem?_append_right (by omega), hlt, show i * 3 + 1 - i * 3 = 1 by omega]; rfl
  · rw [List.getElem?_append_right (by omega), hlt, show i * 3 + 2 - i * 3 = 2 by omega]; rfl
theorem row_at {w : World} {g n c : Nat} {l : List Rc} {hs : List Value} (h : w.ownsRow 0 41 3 (.slice (some ⟨g, 0, none⟩) n c) n (recVals l hs)) (hl : hs.length = l.length) (i : Nat) (hi : i < l.length) :
    w.cell? ⟨g, i * 3, none⟩ = some (.int .i64 l[i].1) ∧ w.cell? ⟨g, i * 3 + 1, none⟩ = some (.int .i64 l[i].2.1) ∧ w.cell? ⟨g, i * 3 + 2, none⟩ = some (hs[i]'(by omega)) := by
  obtain ⟨h1, h2, h3⟩ := recVals_at l hs hl i hi
  have a1 := h.cells (g := g) rfl _ _ h1
  have a2 := h.cells (g := g) rfl _ _ h2
  have a3 := h.cells (g := g) rfl _ _ h3
  rw [Addr.add_lit, Nat.zero_add] at a1 a2 a3
  exact ⟨a1, a2, a3⟩
theorem row_fz {w : World} {g n c : Nat} {xs : List Value} (h : w.ownsRow 0 41 3 (.slice (some ⟨g, 0, none⟩) n c) n xs) (i : Nat) : w.frozen? ⟨g, i, none⟩ = false := by
  rcases h.2 with ⟨e, _⟩ | ⟨g', c', cur, e, hb, hg, _⟩
  · cases e
  · cases e
    simp [World.frozen?, hg]
theorem row_keep {w w' : World} {g n c : Nat} {xs : List Value} (h : w.ownsRow 0 41 3 (.slice (some ⟨g, 0, none⟩) n c) n xs) (hb : Below w.heap.size w w') : w'.ownsRow 0 41 3 (.slice (some ⟨g, 0, none⟩) n c) n xs :=
  rowR_of_block h (fun k e => hb.block k (h.lt k e).2)
theorem take_set3 (xs : List Value) (i : Nat) (u v z : Value) : (((xs.set i u).set (i + 1) v).set (i + 2) z).take i = xs.take i := by
  apply List.ext_getElem?
  intro j
  simp only [List.getElem?_take]
  split
  · rw [List.getElem?_set_ne (by omega), List.getElem?_set_ne (by omega), List.getElem?_set_ne (by omega)]
  · rfl
theorem recVals_take (l : List Rc) (hs : List Value) (h : hs.length = l.length) (p : Nat) (hp : p ≤ l.length) : (recVals l hs).take (p * 3) = recVals (l.take p) (hs.take p) := by
  have hlt : (recVals (l.take p) (hs.take p)).length = p * 3 := by rw [recVals_length _ _ (by simp [h])]; simp; omega
  rw [recVals_split l hs h p, List.take_append_of_le_length (by omega), List.take_of_length_le (by omega)]
set_option maxRecDepth 100000 in
theorem clear_rec (g o c : Nat) (w : World) (h0 : (w.cell? ⟨g, o, none⟩).isSome = true) (h1 : (w.cell? ⟨g, o + 1, none⟩).isSome = true) (h2 : (w.cell? ⟨g, o + 2, none⟩).isSome = true) (hf : ∀ i, w.frozen? ⟨g, i, none⟩ = false) :
    (Builtin.clear_ #[24] 0 #[.slice (some ⟨g, o, none⟩) 1 c]).run Tryz.prog w = .ok (.tuple #[]) (((w.setCell ⟨g, o, none⟩ (.int .i64 0)).setCell ⟨g, o + 1, none⟩ (.int .i64 0)).setCell ⟨g, o + 2, none⟩ (.slice none 0 0)) := by
  have hv : ∀ w, (zeroValue 41).run Tryz.prog w = .ok (.agg #[.int .i64 0, .int .i64 0, .slice none 0 0]) w := fun w => by kernel_rfl
  have hzc : (Builtin.zeroCells (Value.agg #[.int .i64 0, .int .i64 0, .slice none 0 0]).cells 1).toList = [.int .i64 0, .int .i64 0, .slice none 0 0] := by kernel_rfl
  have hst := run_storeCells_cells (P := Tryz.prog) g o [.int .i64 0, .int .i64 0, .slice none 0 0] 0 w (fun j hj => by
    match j, hj with
    | 0, _ => exact h0
    | 1, _ => exact h1
    | 2, _ => exact h2) (fun j hj => hf _) (fun v hv => by
    rcases List.mem_cons.1 hv with e | hv
    · rw [e]; rfl
    · rcases List.mem_cons.1 hv with e | hv
      · rw [e]; rfl
      · rw [List.mem_singleton.1 hv]; rfl)
  simp only [Nat.add_zero, World.setCells] at hst
  simp [Builtin.clear_, run_underlying Tryz.underlying24, hv, hzc, hst]
set_option maxRecDepth 100000 in
theorem i_delete_none (a : Option Addr) (n c : Nat) (l : List Rc) (rb : Nat) (kr tx : Int) (vr : Value) (w : World) (h : SlR w a n l) (hC : BoxR rb kr tx vr w) (hp : placeTx tx l = none) :
    Calls Tryz.prog 121 #[.slice a n c, .func (.func 122) #[] #[.pointer (some ⟨rb, 0, none⟩)]] w fun e w' => e = .returned (.slice a n c) ∧ Below w.heap.size w w' := by
  have HI := Hid.mk' (i_index a n c l rb kr tx vr w h hC)
  rw [hp, show atRet none = (-1 : Int) from rfl] at HI
  go_enter Tryz.func121, Tryz.ntmps121
  go_wp2_with fail
  refine HI.out.mono ?_
  rintro e w1 ⟨rfl, hb⟩
  go_wp2_with fail
  go_ret
  exact ⟨rfl, hb⟩
set_option maxRecDepth 100000 in
set_option maxHeartbeats 8000000 in
theorem i_delete_some (g n c : Nat) (l : List Rc) (hs : List Value) (rb : Nat) (kr tx : Int) (vr : Value) (w : World) (h : OwnR w 0 (.slice (some ⟨g, 0, none⟩) n c) l hs) (hC : BoxR rb kr tx vr w) (hne : rb ≠ g) (hnd : (l.map fun r => r.2.1).Nodup) (k : Nat) (hp : placeTx tx l = some k) :
    Calls Tryz.prog 121 #[.slice (some ⟨g, 0, none⟩) n c, .func (.func 122) #[] #[.pointer (some ⟨rb, 0, none⟩)]] w fun e w' => e = .returned (.slice (some ⟨g, 0, none⟩) (n - 1) c) ∧ OwnR w' 0 (.slice (some ⟨g, 0, none⟩) (n - 1) c) (l.take k ++ l.drop (k + 1)) (hs.take k ++ hs.drop (k + 1)) ∧ lay.Frame [g] w w' := by
  obtain ⟨hk, hkt⟩ := placeTx_some hp
  have hnl : n = l.length := h.nlen
  have hhl := h.len
  have hroom := h.room
  have hrow0 := h.row
  rw [← hnl] at hrow0
  have HI := Hid.mk' (i_index (some ⟨g, 0, none⟩) n c l rb kr tx vr w h.sl hC)
  rw [hp, show atRet (some k) = (k : Int) from rfl] at HI
  have hap : ∀ j (hj : j < l.length), k < j → l[j].2.1 ≠ tx := fun j hj hkj e => by
    have h1 := List.pairwise_iff_getElem.1 hnd k j (by simpa using hk) (by simpa using hj) hkj
    simp only [List.getElem_map] at h1
    exact h1 (by rw [hkt, e])
  have hsm := h.sm
  have hVs := fun i (hi : i < l.length) => (h.ops i hi).sl
  have hm63 : n ≤ 9223372036854775807 := by
    have := hroom.2
    unfold maxLen at this
    have := hroom.1
    omega
  have HNL := Hid.mk' hnl
  have hnc : n ≤ c := hroom.1
  have hkn : k < n := by omega
  clear hnl hroom
  go_enter Tryz.func121, Tryz.ntmps121
  go_wp2_with fail
  refine HI.out.mono ?_
  rintro e w1 ⟨rfl, hb⟩
  have hk1 : ((k : Int) == -1) = false := beq_eq_false_iff_ne.2 (by omega)
  have hw0 : IntKind.i64.wrap ((k : Int) + 1) = (k : Int) + 1 := wraps_i64 _ (by omega) (by omega)
  clear HI
  go_wp2_with fail
  go_loopw [5, 6] (fun vi vj wr => ∃ p : Nat, k ≤ p ∧ p + 1 ≤ n ∧ vi = .int .i64 (p : Int) ∧ vj = .int .i64 ((p : Int) + 1) ∧ wr.ownsRow 0 41 3 (.slice (some ⟨g, 0, none⟩) n c) n (recVals (shl k (p + 1) l) (shl k (p + 1) hs)) ∧ lay.Frame [g] w wr) (fun _ vj _ => n - (intOf vj).toNat)
  case atStart =>
    refine ⟨k, Nat.le_refl _, by omega, rfl, rfl, ?_, lay.Frame.of_below hb⟩
    rw [shl_start, shl_start]
    exact row_keep hrow0 hb
  case round =>
    obtain ⟨p, hkp, hpn, rfl, rfl, hrow, hf⟩ := hrel
    have hCr : BoxR rb kr tx vr wr := (hf.block rb hC.lt (fun e => hne (List.mem_singleton.1 e))).trans hC
    by_cases hlt : p + 1 < n
    · have hltl : p + 1 < l.length := by have := HNL.out; omega
      have hlt2 : p < l.length := by omega
      have hsl := shl_length (l := l) (show k < p + 1 by omega) (by omega)
      have hsh := shl_length (l := hs) (show k < p + 1 by omega) (by omega)
      obtain ⟨r0, r1, r2⟩ := row_at hrow (by omega) (p + 1) (by omega)
      obtain ⟨s0, s1, s2⟩ := row_at hrow (by omega) p (by omega)
      rw [shl_at (by omega) hltl] at r0 r1
      rw [shl_at (by omega) (by omega)] at r2
      have hfz := row_fz hrow
      have hst := shl_step (l := l) (show k < p + 1 by omega) hltl
      have hst2 := shl_step (l := hs) (show k < p + 1 by omega) (show p + 1 < hs.length by omega)
      rw [show p + 1 - 1 = p by omega] at hst hst2
      obtain ⟨pa, pc, hv, _, _⟩ := hVs (p + 1) hltl
      have htx := hap (p + 1) hltl (by omega)
      have hset := fun (wx : World) (hx : wx.ownsRow 0 41 3 (.slice (some ⟨g, 0, none⟩) n c) n (recVals (shl k (p + 1) l) (shl k (p + 1) hs))) => row_set3 hx (p * 3) (.int .i64 l[p + 1].1) (.int .i64 l[p + 1].2.1) hs[p + 1]
      have hrs := recVals_set (shl k (p + 1) l) (shl k (p + 1) hs) (by omega) p (by omega) l[p + 1] hs[p + 1]
      rw [hst, hst2] at hrs
      rw [hrs] at hset
      rw [hv] at hset r2
      have HSET := Hid.mk' hset
      have eb : (l[p + 1].2.1 == tx) = false := beq_eq_false_iff_ne.2 htx
      have hwp : IntKind.i64.wrap ((p : Int) + 1) = (p : Int) + 1 := wraps_i64 _ (by omega) (by omega)
      have hwp2 : IntKind.i64.wrap ((p : Int) + 1 + 1) = (p : Int) + 1 + 1 := wraps_i64 _ (by omega) (by omega)
      have hli : (p : Int) + 1 < (n : Int) := by omega
      generalize (shl k (p + 1) hs)[p]'(by omega) = v2 at *
      generalize (shl k (p + 1) l)[p]'(by omega) = q at *
      generalize l[p + 1].2.2.length = ol at *
      clear hst hst2 hrs hset htx hsl hsh hv
      obtain ⟨u1, hu1⟩ : ∃ u1, wr.alloc (.cells #[.int .i64 l[p + 1].1, .int .i64 l[p + 1].2.1, .slice pa ol pc] 41) = u1 := ⟨_, rfl⟩
      have hb1 : Below wr.heap.size wr u1 := by rw [← hu1]; exact (Below.refl _ _).alloc (Nat.le_refl _) _
      have hbx : BoxR wr.heap.size l[p + 1].1 l[p + 1].2.1 (.slice pa ol pc) u1 := by rw [← hu1]; exact boxR_new _ _ _ _
      have HCL := Hid.mk' (i_settled1 rb kr tx vr l[p + 1].1 l[p + 1].2.1 (.slice pa ol pc) rfl u1 (hCr.below hb1))
      rw [eb] at HCL
      generalize l[p + 1].1 = rk at *
      generalize l[p + 1].2.1 = rt at *
      have HU := Hid.mk' hu1
      obtain ⟨d0, d1, d2⟩ := hbx.cells
      rw [← hu1] at d0 d1 d2
      clear hu1
      go_wp2_with fail
      rw [HU.out]
      refine HCL.out.mono ?_
      rintro e u2 ⟨rfl, hb2⟩
      have hb12 := hb1.trans (hb2.mono hb1.size)
      clear HCL HU d0 d1 d2 r0 r1 r2
      obtain ⟨d0, d1, d2⟩ := (hbx.below hb2).cells
      have hrow2 := row_keep hrow hb12
      have e0 : u2.cell? ⟨g, p * 3, none⟩ = some (.int .i64 q.1) := (hb12.cell (p := ⟨g, p * 3, none⟩) (World.block_lt_of_cell? wr _ s0)).trans s0
      have e1 : u2.cell? ⟨g, p * 3 + 1, none⟩ = some (.int .i64 q.2.1) := (hb12.cell (p := ⟨g, p * 3 + 1, none⟩) (World.block_lt_of_cell? wr _ s1)).trans s1
      have e2 : u2.cell? ⟨g, p * 3 + 2, none⟩ = some v2 := (hb12.cell (p := ⟨g, p * 3 + 2, none⟩) (World.block_lt_of_cell? wr _ s2)).trans s2
      have z0 := row_fz hrow2 (p * 3)
      have z1 := row_fz hrow2 (p * 3 + 1)
      have z2 := row_fz hrow2 (p * 3 + 2)
      have HSZ := Hid.mk' (HSET.out u2 hrow2)
      have HFZ := Hid.mk' ((hf.below hb12).grown (HSET.out u2 hrow2).2 (fun j e => .inl (by cases e; simp)))
      have hpn2 : (p : Int) < (n : Int) := by omega
      clear hrow hf s0 s1 s2 HSET hrow2 hb1 hb2 hb12 hbx hCr hfz
      go_wp2_with fail
      go_roundw
      case rel => exact ⟨p + 1, by omega, by omega, by go_num, by go_num, HSZ.out.1, HFZ.out⟩
      case measure => simp [intOf]; omega
    · have hpe : n = p + 1 := by omega
      subst hpe
      have hnl2 : ¬ ((p : Int) + 1 < ((p + 1 : Nat) : Int)) := by omega
      have hll := HNL.out
      have hsl := shl_length (l := l) (show k < p + 1 by omega) (by omega)
      have hsh := shl_length (l := hs) (show k < p + 1 by omega) (by omega)
      obtain ⟨s0, s1, s2⟩ := row_at hrow (by omega) p (by omega)
      have hcl := clear_rec g (p * 3) (c - p) wr (by rw [s0]; rfl) (by rw [s1]; rfl) (by rw [s2]; rfl) (row_fz hrow)
      have hR3 := row_set3 hrow (p * 3) (.int .i64 0) (.int .i64 0) (.slice none 0 0)
      have hRL := row_less hR3.1 p (by omega)
      rw [take_set3, recVals_take _ _ (by omega) p (by omega)] at hRL
      have hA1 := shl_all (l := l) (k := k) (by omega)
      have hA2 := shl_all (l := hs) (k := k) (by omega)
      rw [hhl] at hA2
      rw [← hll] at hA1 hA2
      rw [show p + 1 - 1 = p by omega] at hA1 hA2
      rw [hA1, hA2] at hRL
      have hFz := hf.grown hR3.2 (fun j e => .inl (by cases e; simp))
      have HOZ := Hid.mk' (h.eraseF hFz k hk (n' := p) (by omega) hRL)
      have HFZ := Hid.mk' hFz
      have hcp : ¬ c = p := by omega
      have hcp2 : p ≤ c := by omega
      clear hRL hA1 hA2 hR3 hFz hsl hsh s0 s1 s2 hll hrow hf hCr
      go_wp2_with fail
      go_ret
      exact ⟨rfl, HOZ.out, HFZ.out⟩
end Go.Proofs.YteniflajiklffaaGreatDoor.recs

namespace Go.Proofs.YteniflajiklffaaGreatDoor.recs
open Go Go.RowKit Go.Proofs.YteniflajiklffaaGreatDoor.base Go.Proofs.YteniflajiklffaaGreatDoor.pairs Go.Proofs.YteniflajiklffaaGreatDoor.ords Go.Proofs.YteniflajiklffaaGreatDoor.helps Go.Proofs.YteniflajiklffaaGreatDoor.help Go.Proofs.YteniflajiklffaaGreatDoor.lay
set_option linter.unusedVariables false
set_option linter.unusedSimpArgs false

theorem retSh_mk {w w' : World} {la ma ha : Option Addr} {ln lc mn mc hn hc : Nat} {s : Shd} {F : List Nat} (h : OwnSh w' la ln lc ma mn mc ha hn hc s F) (hF : ∀ k ∈ F, w.heap.size ≤ k) (hb : Below w.heap.size w w') : RetSh w s (.returned (aggSh s.1 s.2.2.1 la ln lc ma mn mc ha hn hc)) w' :=
  ⟨la, ln, lc, ma, mn, mc, ha, hn, hc, F, rfl, h, hF, hb⟩
end Go.Proofs.YteniflajiklffaaGreatDoor.recs

namespace Go.Proofs.YteniflajiklffaaGreatDoor.recs
open Go Go.RowKit Go.Proofs.YteniflajiklffaaGreatDoor.base Go.Proofs.YteniflajiklffaaGreatDoor.pairs Go.Proofs.YteniflajiklffaaGreatDoor.ords Go.Proofs.YteniflajiklffaaGreatDoor.helps Go.Proofs.YteniflajiklffaaGreatDoor.help Go.Proofs.YteniflajiklffaaGreatDoor.lay Go.Proofs.YteniflajiklffaaGreatDoor.sent
set_option linter.unusedVariables false
set_option linter.unusedSimpArgs false

theorem InSh.putHeld {w w8 : World} {X : Nat} {T : TypeId} {pre post : List Value} {la ma : Option Addr} {gh ln lc mn mc hn hc n8 : Nat} {s : Shd} {F : List Nat} {hl hh hs8 : List Value} {l8 : List Rc} (h : InSh w X T pre post la ln lc ma mn mc (some ⟨gh, 0, none⟩) hn hc s F) (hOL : OwnR w 0 (.slice la ln lc) s.2.1 hl) (hFe : F = blkR (.slice la ln lc) hl ++ ((Value.slice ma mn mc).ownBlock.toList ++ blkR (.slice (some ⟨gh, 0, none⟩) hn hc) hh))
    (hf : lay.Frame [gh] w w8) (hO8 : OwnR w8 0 (.slice (some ⟨gh, 0, none⟩) n8 hc) l8 hs8) (hsub : hs8.Sublist hh) :
    ∃ F', InSh (w8.setCell ⟨X, pre.length + 4, none⟩ (.slice (some ⟨gh, 0, none⟩) n8 hc)) X T pre post la ln lc ma mn mc (some ⟨gh, 0, none⟩) n8 hc (s.1, s.2.1, s.2.2.1, s.2.2.2.1, l8) F' ∧ lay.Frame (X :: F) w (w8.setCell ⟨X, pre.length + 4, none⟩ (.slice (some ⟨gh, 0, none⟩) n8 hc)) ∧ ∀ k ∈ F', k ∈ F := by
  have hOM := h.own.map
  have hnd := h.own.nodup
  have hXF := h.out
  have hmF : ∀ k, (Value.slice ma mn mc).ownBlock = some k → k ∈ F := fun k e => by rw [hFe]; exact List.mem_append.2 (.inr (List.mem_append.2 (.inl (by simp [e]))))
  have hLF : ∀ k, BlkR (.slice la ln lc) hl k → k ∈ F := fun k e => by rw [hFe]; exact List.mem_append.2 (.inl (mem_blkR.2 e))
  have hHF : ∀ k, BlkR (.slice (some ⟨gh, 0, none⟩) hn hc) hh k → k ∈ F := fun k e => by rw [hFe]; exact List.mem_append.2 (.inr (List.mem_append.2 (.inr (mem_blkR.2 e))))
  have hgF : gh ∈ F := hHF gh (.inl rfl)
  have hXg : X ≠ gh := fun e => hXF (by rw [e]; exact hgF)
  rw [hFe] at hnd
  obtain ⟨n1, n2, n3⟩ := nodup_parts hnd
  obtain ⟨n4, n5, n6⟩ := nodup_parts n2
  have hgm : (Value.slice ma mn mc).ownBlock ≠ some gh := fun e => n6 gh (by simp [e]) (mem_blkR.2 (.inl rfl))
  have hgl : ¬ BlkR (.slice la ln lc) hl gh := fun e => n3 gh (mem_blkR.2 e) (List.mem_append.2 (.inr (mem_blkR.2 (.inl rfl))))
  have hb8 := h.box.frame hf (fun e => hXg (List.mem_singleton.1 e))
  have hOL8 := hOL.of_blocks fun k hk => hf.block k (hOL.lt k hk).2 (fun e => hgl (by rw [← List.mem_singleton.1 e]; exact hk))
  have hOM8 := hOM.of_block fun k hk => hf.block k (hOM.lt k hk) (fun e => hgm (by rw [← List.mem_singleton.1 e]; exact hk))
  have c := hb8.set 4 (by simp [shVals]) (.slice (some ⟨gh, 0, none⟩) n8 hc)
  have h8F : ∀ k, BlkR (.slice (some ⟨gh, 0, none⟩) n8 hc) hs8 k → BlkR (.slice (some ⟨gh, 0, none⟩) hn hc) hh k := fun k hk => by
    rcases hk with e | ⟨y, hy, e⟩
    · exact .inl e
    · exact .inr ⟨y, hsub.subset hy, e⟩
  have hnX : ∀ k, k ∈ F → some k ≠ some X := fun k hk e => hXF (by rw [← Option.some.inj e]; exact hk)
  have hOL9 := hOL8.of_blocks fun k hk => c.2.block k (hOL8.lt k hk).2 (hnX k (hLF k hk))
  have hOM9 := hOM8.of_block fun k hk => c.2.block k (hOM8.lt k hk) (hnX k (hmF k hk))
  have hOH9 := hO8.of_blocks fun k hk => c.2.block k (hO8.lt k hk).2 (hnX k (hHF k (h8F k hk)))
  have n8n := recsR.ownNodup (recs_own.2 ⟨_, hOH9, rfl⟩)
  refine ⟨blkR (.slice la ln lc) hl ++ ((Value.slice ma mn mc).ownBlock.toList ++ blkR (.slice (some ⟨gh, 0, none⟩) n8 hc) hs8), ⟨c.1, ⟨h.own.id, h.own.sure, ⟨hl, hOL9, hs8, hOH9, rfl⟩, hOM9, ?_⟩, ?_⟩, ?_, ?_⟩
  · refine nodup_mk n1 (nodup_mk n4 n8n (fun k hk hk2 => n6 k hk (mem_blkR.2 (h8F k (mem_blkR.1 hk2))))) (fun k hk hk2 => n3 k hk ?_)
    rcases List.mem_append.1 hk2 with e | e
    · exact List.mem_append.2 (.inl e)
    · exact List.mem_append.2 (.inr (mem_blkR.2 (h8F k (mem_blkR.1 e))))
  · intro e
    rcases List.mem_append.1 e with e | e
    · exact hXF (hLF X (mem_blkR.1 e))
    · rcases List.mem_append.1 e with e | e
      · exact hXF (hmF X (by simpa using e))
      · exact hXF (hHF X (h8F X (mem_blkR.1 e)))
  · exact (hf.mono (fun k hk => by rw [List.mem_singleton.1 hk]; exact List.mem_cons_of_mem _ hgF)).grown c.2 (fun k e => .inl (by rw [← Option.some.inj e]; exact List.mem_cons_self))
  · intro k hk
    rcases List.mem_append.1 hk with e | e
    · exact hLF k (mem_blkR.1 e)
    · rcases List.mem_append.1 e with e | e
      · exact hmF k (by simpa using e)
      · exact hHF k (h8F k (mem_blkR.1 e))
set_option maxRecDepth 100000 in
set_option maxHeartbeats 4000000 in
theorem i_heldOps (la : Option Addr) (ln lc : Nat) (ma : Option Addr) (mn mc : Nat) (ha : Option Addr) (hn hc : Nat) (s : Shd) (tx : Int) (w : World) (h : SeeSh w la ln lc ma mn mc ha hn hc s) (k : Nat) (hk : k < s.2.2.2.2.length) (hp : placeTx tx s.2.2.2.2 = some k) :
    Calls Tryz.prog 93 #[aggSh s.1 s.2.2.1 la ln lc ma mn mc ha hn hc, .int .i64 tx] w fun e w' => ∃ pa pl pc, e = .returned (.slice pa pl pc) ∧ SlO w pa pl s.2.2.2.2[k].2.2 ∧ pl ≤ pc ∧ Below w.heap.size w w' := by
  obtain ⟨hl, hm, hsm, hc'⟩ := id h.held
  unfold maxLen at hm
  obtain ⟨hk0, hkt⟩ := placeTx_some hp
  obtain ⟨W, hW⟩ : ∃ W, w.alloc (boxSh s.1 s.2.2.1 la ln lc ma mn mc ha hn hc) = W := ⟨_, rfl⟩
  have hB : Below w.heap.size w W := by rw [← hW]; exact (Below.refl _ _).alloc (Nat.le_refl _) _
  have hbx : BoxIn w.heap.size 27 [] (shVals s.1 s.2.2.1 la ln lc ma mn mc ha hn hc) [] W := by rw [← hW]; exact boxIn_new w _ _
  have c1 := hbx.cell 4 _ rfl
  simp only [List.length_nil, Nat.zero_add] at c1
  have hheld := h.held.below hB
  have HAT := Hid.mk' (fun j (hj : j < s.2.2.2.2.length) b off (e : ha = some ⟨b, off, none⟩) => (show RcAt w b (off + j * 3) s.2.2.2.2[j] from by have q := h.held; rw [e] at q; exact q.at j hj))
  have HW := Hid.mk' hW
  rw [← hW] at c1
  have HL := Hid.mk' hl
  have HF : Hid (∀ j (hj : j < s.2.2.2.2.length), s.2.2.2.2[j].2.1 = tx → (∀ r ∈ s.2.2.2.2.take j, r.2.1 ≠ tx) → j = k) := fun j hj e hno => by
    have := placeTx_hit hj hno e
    rw [hp] at this
    exact (Option.some.inj this).symm
  have HK : Hid (¬ ∀ r ∈ s.2.2.2.2, r.2.1 ≠ tx) := fun hno => hno _ (List.getElem_mem hk) hkt
  clear hW hl hp hkt
  go_enter Tryz.func93, Tryz.ntmps93
  go_wp2_with fail
  rw [HW.out]
  clear c1 HW
  go_loopw [10] (fun i wr => ∃ j : Nat, j ≤ hn ∧ i = .int .i64 (j : Int) ∧ (∀ r ∈ s.2.2.2.2.take j, r.2.1 ≠ tx) ∧ Below W.heap.size W wr) (fun i _ => hn - (intOf i).toNat)
  case atStart => exact ⟨0, Nat.zero_le _, rfl, by simp, Below.refl _ _⟩
  case round =>
    obtain ⟨j, hj, rfl, hno, hb⟩ := hrel
    by_cases hlt : j < hn
    · have hltl : j < s.2.2.2.2.length := by have := HL.out; omega
      obtain ⟨b, off, e, _⟩ := hc' (by omega)
      have hat := HAT.out j hltl b off e
      subst e
      obtain ⟨_, _, pa, pl, pc, e2', hSo, hpc⟩ := hat
      obtain ⟨e0, e1, pa2, pl2, pc2, e2, _, _⟩ := (hheld.below hb).at j hltl
      have hbw := hB.trans (hb.mono hB.size)
      have e2'' := (hbw.cell (p := ⟨b, off + j * 3 + 2, none⟩) (World.block_lt_of_cell? w _ e2')).trans e2'
      obtain ⟨rfl, rfl, rfl⟩ : pa2 = pa ∧ pl2 = pl ∧ pc2 = pc := by
        have := Option.some.inj (e2.symm.trans e2'')
        cases this; exact ⟨rfl, rfl, rfl⟩
      have hki : (j : Int) < (hn : Int) := by omega
      have HB2 := Hid.mk' (hb.alloc hb.size (.cells #[.int .i64 s.2.2.2.2[j].1, .int .i64 s.2.2.2.2[j].2.1, .slice pa2 pl2 pc2] 41))
      by_cases e : s.2.2.2.2[j].2.1 = tx
      · have hjk := HF.out j hltl e hno
        subst hjk
        have eb : (s.2.2.2.2[j].2.1 == tx) = true := by simpa using e
        have HP : Hid (SlO w pa2 pl2 s.2.2.2.2[j].2.2 ∧ pl2 ≤ pc2) := ⟨hSo, hpc⟩
        have HPO : Hid (∀ v, v = Value.slice pa2 pl2 pc2 → ∃ pa pl pc, Ending.returned v = .returned (.slice pa pl pc) ∧ SlO w pa pl s.2.2.2.2[j].2.2 ∧ pl ≤ pc) := fun v e => ⟨pa2, pl2, pc2, by rw [e], HP.out⟩
        clear hno e HF HK HAT e2' e2'' hSo HP
        generalize s.2.2.2.2[j] = r at e0 e1 eb HB2
        obtain ⟨r1, r2, r3⟩ := r
        simp only [] at e0 e1 eb HB2
        go_wp2_with fail
        go_ret
        obtain ⟨pa3, pl3, pc3, q1, q2, q3⟩ := HPO.out _ rfl
        exact ⟨pa3, pl3, pc3, q1, q2, q3, hB.trans (HB2.out.mono hB.size)⟩
      · have eb : (s.2.2.2.2[j].2.1 == tx) = false := beq_eq_false_iff_ne.2 e
        have HN : Hid (∀ r ∈ s.2.2.2.2.take (j + 1), r.2.1 ≠ tx) := by
          intro r hr
          rw [List.take_succ_eq_append_getElem hltl] at hr
          rcases List.mem_append.1 hr with e2 | e2
          · exact hno r e2
          · rw [List.mem_singleton.1 e2]; exact e
        clear hno e HAT e2' e2'' hSo
        generalize s.2.2.2.2[j] = r at *
        obtain ⟨r1, r2, r3⟩ := r
        simp only [] at e0 e1 eb HB2
        go_wp2_with fail
        go_roundw
        case rel => exact ⟨j + 1, by omega, by go_num, HN.out, HB2.out⟩
        case measure => simp [intOf]; omega
    · exfalso
      rw [List.take_of_length_le (by have := HL.out; omega)] at hno
      exact HK.out hno
def heldNo (l : List Rc) (tx : Int) : List Rc := match placeTx tx l with | none => l | some k => l.take k ++ l.drop (k + 1)
set_option maxRecDepth 100000 in
set_option maxHeartbeats 8000000 in
theorem i_settled (la : Option Addr) (ln lc : Nat) (ma : Option Addr) (mn mc : Nat) (ha : Option Addr) (hn hc : Nat) (s : Shd) (kind tx : Int) (a : Option Addr) (len cap : Nat) (ops : List Od) (w : World) (h : SeeSh w la ln lc ma mn mc ha hn hc s) (hb : Bound s) (ho : SlO w a len ops) (hsr : smallR (kind, tx, ops)) (hlen : len ≤ 1099511627776) (hnd : (s.2.2.2.2.map fun r => r.2.1).Nodup) :
    Calls Tryz.prog 92 #[aggSh s.1 s.2.2.1 la ln lc ma mn mc ha hn hc, .agg #[.int .i64 kind, .int .i64 tx, .slice a len cap]] w (RetSh w (s.1, s.2.1 ++ [(kind, tx, ops)], s.2.2.1, s.2.2.2.1, heldNo s.2.2.2.2 tx)) := by
  obtain ⟨i0, hi, hz0, hz1, hz2⟩ := info_parts infoRW
  obtain ⟨W, hW⟩ : ∃ W, ((w.alloc (boxSh s.1 s.2.2.1 la ln lc ma mn mc ha hn hc)).alloc (.cells #[.int .i64 kind, .int .i64 tx, .slice a len cap] 41)).alloc (boxSh 0 0 none 0 0 none 0 0 none 0 0) = W := ⟨_, rfl⟩
  have hb0 : Below w.heap.size w (w.alloc (boxSh s.1 s.2.2.1 la ln lc ma mn mc ha hn hc)) := below_alloc
  have hb1 : Below w.heap.size w ((w.alloc (boxSh s.1 s.2.2.1 la ln lc ma mn mc ha hn hc)).alloc (.cells #[.int .i64 kind, .int .i64 tx, .slice a len cap] 41)) := hb0.alloc hb0.size _
  have hB : Below w.heap.size w W := by rw [← hW]; exact hb1.alloc hb1.size _
  have hX : BoxIn w.heap.size 27 [] (shVals s.1 s.2.2.1 la ln lc ma mn mc ha hn hc) [] W := by rw [← hW]; exact ((boxIn_new w _ _).below below_alloc).below below_alloc
  have hC : BoxR (w.heap.size + 1) kind tx (.slice a len cap) W := by
    rw [← hW]
    have := (boxR_new (w.alloc (boxSh s.1 s.2.2.1 la ln lc ma mn mc ha hn hc)) kind tx (.slice a len cap)).below (below_alloc (o := boxSh 0 0 none 0 0 none 0 0 none 0 0))
    rwa [show (w.alloc (boxSh s.1 s.2.2.1 la ln lc ma mn mc ha hn hc)).heap.size = w.heap.size + 1 by simp] at this
  have hRB : BoxIn (w.heap.size + 1 + 1) 27 [] (shVals 0 0 none 0 0 none 0 0 none 0 0) [] W := by
    rw [← hW]
    have := boxIn_new ((w.alloc (boxSh s.1 s.2.2.1 la ln lc ma mn mc ha hn hc)).alloc (.cells #[.int .i64 kind, .int .i64 tx, .slice a len cap] 41)) (shVals 0 0 none 0 0 none 0 0 none 0 0) 27
    rwa [show ((w.alloc (boxSh s.1 s.2.2.1 la ln lc ma mn mc ha hn hc)).alloc (.cells #[.int .i64 kind, .int .i64 tx, .slice a len cap] 41)).heap.size = w.heap.size + 1 + 1 by simp] at this
  have hsW : w.heap.size + 1 + 1 < W.heap.size := hRB.lt
  have HXC := Hid.mk' (fun wx (hx : Below W.heap.size W wx) => (show _ ∧ _ ∧ _ ∧ _ ∧ _ from by
    have a0 := (hX.below hx).cell 0 _ rfl
    have a1 := (hX.below hx).cell 1 _ rfl
    have a2 := (hX.below hx).cell 2 _ rfl
    have a3 := (hX.below hx).cell 3 _ rfl
    have a4 := (hX.below hx).cell 4 _ rfl
    simp only [List.length_nil, Nat.zero_add] at a0 a1 a2 a3 a4
    exact ⟨a0, a1, a2, a3, a4⟩))
  have HCC := Hid.mk' (fun wx (hx : Below W.heap.size W wx) => (hC.below hx).cells)
  obtain ⟨b1, b2, b3⟩ := SeeSh.few h hb
  have HOW := Hid.mk' (fun wx (hx : Below W.heap.size W wx) => i_ownSh la ln lc ma mn mc ha hn hc s wx ((h.below hB).below hx) hb.few hb.fewH (by omega) (by omega) (by omega))
  have HRC := Hid.mk' (fun wx (hx : Below W.heap.size W wx) => i_ownRec kind tx a len cap ops wx ((ho.below hB).below hx) hlen)
  have HL1 := Hid.mk' (h.log.1)
  have HHL := Hid.mk' (h.held.1)
  have hc3 : ln + 1 ≤ maxLen := by unfold maxLen; omega
  have hc4 : (ln + 1) * 40 ≤ 140737488355328 := by omega
  have HW := Hid.mk' hW
  obtain ⟨a0, a1, a2, a3, a4⟩ := HXC.out W (Below.refl _ _)
  rw [← hW] at a0 a1 a2 a3 a4
  clear hW hb0 hb1
  have HOWW := Hid.mk' (HOW.out W (Below.refl _ _))
  go_enter Tryz.func92, Tryz.ntmps92
  go_wp2_with fail
  rw [HW.out]
  refine HOWW.out.mono ?_
  rintro e w1 ⟨gl, cl, gm, cm, gh, ch, FF, rfl, hO1, hF1, hb2⟩
  clear a0 a1 a2 a3 a4 HW HOWW HOW
  obtain ⟨u1, hu1⟩ : ∃ u1, w1.alloc (boxSh s.1 s.2.2.1 (some ⟨gl, 0, none⟩) ln cl (some ⟨gm, 0, none⟩) mn cm (some ⟨gh, 0, none⟩) hn ch) = u1 := ⟨_, rfl⟩
  have hb3 : Below w1.heap.size w1 u1 := by rw [← hu1]; exact below_alloc
  have hT := inBox_new hO1
  rw [hu1] at hT
  have hs1 := hb2.size
  have hb4 := hb2.trans (hb3.mono hb2.size)
  have hd : Below u1.heap.size u1 u1.drew := (Below.refl _ _).drew
  have hbd := hb4.trans (hd.mono hb4.size)
  have hTd := hT.below hd
  have hCd := hC.below hbd
  have HU1 := Hid.mk' hu1
  clear hu1 hT hO1
  go_wp2_with fail
  rw [HU1.out]
  refine last.wp_region_later (S := fun w' => BoxIn w1.heap.size 27 [] (shVals s.1 s.2.2.1 (some ⟨gl, 0, none⟩) ln cl (some ⟨gm, 0, none⟩) mn cm (some ⟨gh, 0, none⟩) hn ch) [] w' ∧ BoxR (w.heap.size + 1) kind tx (.slice a len cap) w') 7 (by kernel_rfl) ⟨hTd.box, hCd⟩ (fun hHeld0 => ?_)
  generalize u1.drew = D5 at *
  refine last.wpAnyL_take (i := 0) (v := (.pointer (some ⟨w1.heap.size, 1, none⟩))) rfl rfl (by kernel_rfl) (by kernel_rfl) (by kernel_rfl) (by kernel_rfl) (fun _ _ _ h => h) (Or.inl ⟨by rfl, ?_⟩) (by assumption) ?_
  · intro wq hSq; go_simp
  try simp only [Act.put, List.setIfInBounds_toArray, List.set_cons_zero, List.set_cons_succ]
  refine last.wpAnyL_take (i := 1) (v := (.slice (some ⟨gl, 0, none⟩) ln cl)) rfl rfl (by kernel_rfl) (by kernel_rfl) (by kernel_rfl) (by kernel_rfl) (fun _ _ _ h => h) (Or.inl ⟨by rfl, ?_⟩) (by assumption) ?_
  · intro wq hSq; have q := hSq.1.cell 1 _ rfl; simp only [List.length_nil, Nat.zero_add] at q; go_simp
  try simp only [Act.put, List.setIfInBounds_toArray, List.set_cons_zero, List.set_cons_succ]
  refine last.wpAnyL_take (i := 2) (v := (.agg #[.int .i64 kind, .int .i64 tx, .slice a len cap])) rfl rfl (by kernel_rfl) (by kernel_rfl) (by kernel_rfl) (by kernel_rfl) (fun _ _ _ h => h) (Or.inl ⟨by rfl, ?_⟩) (by assumption) ?_
  · intro wq hSq; obtain ⟨q1, q2, q3⟩ := hSq.2.cells; go_simp
  try simp only [Act.put, List.setIfInBounds_toArray, List.set_cons_zero, List.set_cons_succ]
  refine last.wpAnyL_one (i := 3) (o := { dst := some 11, op := Op.call { callee := Callee.value (Operand.func 76), args := #[Operand.tmp 10], argTypes := #[41] }, type := 41, pos := "l09_shard.go:199", after := #[{ on := 2, ground := Ground.data }], guard := none }) (by kernel_rfl) rfl (fun K hK => ?_)
  refine stepc.step_call1 rfl 76 (.tmp 10) _ rfl (fun _ _ => rfl) (.agg #[.int .i64 kind, .int .i64 tx, .slice a len cap]) (by kernel_rfl) _ (HRC.out _ hbd) ?_
  rintro e u6 ⟨g3, rfl, hQ6, hb6⟩
  refine ⟨_, rfl, ?_⟩
  have hb7 := hbd.trans (hb6.mono hbd.size)
  have hT6 := hTd.below hb6
  have h3l := hQ6.lt
  refine hK.out _ _ ?_ (fun hHeld => ?_)
  · exact ⟨hT6.box, hCd.below hb6⟩
  clear hK K hHeld0
  have hHeld0 := hHeld
  clear hHeld
  try simp only [Act.put, List.setIfInBounds_toArray, List.set_cons_zero, List.set_cons_succ]
  refine last.wpAnyL_one (i := 4) (o := { dst := some 12, op := Op.buildSlice 24 1 #[(0, Operand.tmp 11)], type := 24, pos := "l09_shard.go:199", after := #[{ on := 3, ground := Ground.data }], guard := none }) (by kernel_rfl) rfl (fun K hK => ?_)
  go_simp
  have hb8 : Below u6.heap.size u6 (u6.alloc (.cells #[.int .i64 kind, .int .i64 tx, .slice (some ⟨g3, 0, none⟩) len len] 41)) := below_alloc
  have hN8 := heap_alloc_new u6 (.cells #[.int .i64 kind, .int .i64 tx, .slice (some ⟨g3, 0, none⟩) len len] 41)
  have hT8 := hT6.below hb8
  have hC8 := (hCd.below hb6).below hb8
  have hb9 := hb7.trans (hb8.mono hb7.size)
  have hV8 := ((ownV_of hQ6).mono (base' := 0) (Nat.zero_le _)).below hb8
  have hsz8 := hb8.size
  refine hK.out _ _ ?_ (fun hHeld => ?_)
  · exact ⟨hT8.box, hC8⟩
  clear hK K hHeld0
  have hHeld0 := hHeld
  clear hHeld
  try simp only [Act.put, List.setIfInBounds_toArray, List.set_cons_zero, List.set_cons_succ]
  generalize hgw : u6.alloc (.cells #[.int .i64 kind, .int .i64 tx, .slice (some ⟨g3, 0, none⟩) len len] 41) = u8 at *
  clear hgw
  refine last.wpAnyL_one (i := 5) (o := { dst := some 13, op := Op.call { callee := Callee.builtin Builtin.append, args := #[Operand.tmp 9, Operand.tmp 12], argTypes := #[24, 24] }, type := 24, pos := "l09_shard.go:199", after := #[{ on := 1, ground := Ground.data }, { on := 4, ground := Ground.data }, { on := 3, ground := Ground.chain }], guard := none }) (by kernel_rfl) rfl (fun K hK => ?_)
  obtain ⟨hl, hOL, hh, hOH, hFe⟩ := hT8.own.log
  have hvF : ∀ j, (Value.slice (some ⟨g3, 0, none⟩) len len).ownBlock = some j → j ∉ FF ∧ j ≠ w1.heap.size := fun j hj => by
    have e1 : g3 = j := by simpa [Value.ownBlock] using hj
    have hlt := hTd.own.lt
    have hXl := hTd.box.lt
    refine ⟨fun e => ?_, by omega⟩
    have := hlt j e
    omega
  refine step_append_lies _ rfl (.tmp 9) (.tmp 12) 24 rfl 0 41 i0 (.agg #[.int .i64 0, .int .i64 0, .slice none 0 0]) 3 40 Tryz.underlying24 hi hz0 hz1 hz2 rfl (by decide) (.slice (some ⟨gl, 0, none⟩) ln cl) ln (recVals s.2.1 hl) (by kernel_rfl) (by have q := hOL.row; rw [HL1.out] at q; exact q) ⟨u6.heap.size, 0, none⟩ 1 1 [.int .i64 kind, .int .i64 tx, .slice (some ⟨g3, 0, none⟩) len len] (by kernel_rfl) rfl (fun j u hu => World.news_of_block hN8 j u hu) (rec_oneW kind tx hV8.one) (by decide) hc3 hc4 (Nat.zero_le _) _ rfl ?_
  intro g8 c8 u9 hown8 hgrow8 hat8 hlt8
  have hE9 : OwnR u9 0 (.slice (some ⟨g8, 0, none⟩) (ln + 1) c8) (s.2.1 ++ [(kind, tx, ops)]) (hl ++ [.slice (some ⟨g3, 0, none⟩) len len]) := hOL.snoc hV8 hsr (fun k hk hb => (hvF k hk).1 (by rw [hFe]; exact List.mem_append.2 (.inl (mem_blkR.2 hb)))) (by rw [HL1.out]; exact hown8) hgrow8
  have hP := hT8.putLog (v := .slice (some ⟨g3, 0, none⟩) len len) hOL hOH hFe hvF hgrow8 hE9 hat8
  simp only [List.length_nil, Nat.zero_add] at hP
  obtain ⟨F', hP1, hP2, hP3⟩ := hP
  have hglF : ∀ k, (Value.slice (some ⟨gl, 0, none⟩) ln cl).ownBlock = some k → k ∈ FF := fun k e => by rw [hFe]; exact List.mem_append.2 (.inl (mem_blkR.2 (.inl e)))
  have hb8X : BoxIn w1.heap.size 27 [] (shVals s.1 s.2.2.1 (some ⟨gl, 0, none⟩) ln cl (some ⟨gm, 0, none⟩) mn cm (some ⟨gh, 0, none⟩) hn ch) [] u9 := hT8.box.grown hgrow8 (fun e => hT8.out (hglF _ e.symm))
  have hC9 : BoxR (w.heap.size + 1) kind tx (.slice a len cap) u9 := (hgrow8.block _ hC8.lt (fun e => by have := hF1 _ (hglF _ e.symm); omega)).trans hC8
  refine hK.out _ _ ?_ (fun hHeld => ?_)
  · exact ⟨hb8X, hC9⟩
  clear hK K hHeld0
  have hHeld0 := hHeld
  clear hHeld
  try simp only [Act.put, List.setIfInBounds_toArray, List.set_cons_zero, List.set_cons_succ]
  refine last.wpAnyL_take (i := 6) (v := (.pointer (some ⟨w1.heap.size, 1, none⟩))) rfl rfl (by kernel_rfl) (by kernel_rfl) (by kernel_rfl) (by kernel_rfl) (fun _ _ _ h => h) (Or.inl ⟨by rfl, ?_⟩) (by assumption) ?_
  · intro wq hSq; go_simp
  try simp only [Act.put, List.setIfInBounds_toArray, List.set_cons_zero, List.set_cons_succ]
  have e8 := hb8X.cell 1 _ rfl
  have f8 := hb8X.fz 1
  simp only [List.length_nil, Nat.zero_add] at e8
  refine last.wpAnyL_last (o := { dst := none, op := Op.store 24 (Operand.tmp 14) (Operand.tmp 13), type := 0, pos := "l09_shard.go:199", after := #[{ on := 6, ground := Ground.data }, { on := 5, ground := Ground.data }, { on := 5, ground := Ground.chain }, { on := 0, ground := Ground.phase }, { on := 1, ground := Ground.phase }, { on := 2, ground := Ground.phase }, { on := 3, ground := Ground.phase }, { on := 4, ground := Ground.phase }, { on := 5, ground := Ground.phase }], guard := none }) (by kernel_rfl) rfl (by kernel_rfl) (fun K hK => ?_)
  go_simp
  refine hK.out _ _ ?_
  clear hK K
  have hF2 : ∀ k ∈ F', W.heap.size ≤ k := fun k hk => by
    have hs7 := hb7.size
    have hsd := hbd.size
    rcases hP3 k hk with e | e | e
    · exact hF1 k e
    · have e1 : g3 = k := by simpa [Value.ownBlock] using e
      omega
    · omega
  have hBf : Below W.heap.size W (u9.setCell ⟨w1.heap.size, 1, none⟩ (.slice (some ⟨g8, 0, none⟩) (ln + 1) c8)) := hb9.trans (hP2.bel hb9.size (fun k hk => by
    rcases List.mem_cons.1 hk with e | e
    · omega
    · exact hF1 k e))
  clear hHeld0 e8 f8 hb8X hC9 hC8 hT8 hT6 hTd hCd hE9 hown8 hgrow8 hat8 hlt8 hOL hOH hFe hV8 hN8 hQ6 hb6 hb8 hb9 hb7 hP2 hP3 hvF hglF HRC hd hbd HU1 h3l hsz8
  generalize u9.setCell ⟨w1.heap.size, 1, none⟩ (.slice (some ⟨g8, 0, none⟩) (ln + 1) c8) = V at *
  have hCV := hC.below hBf
  have hRV := hRB.below hBf
  obtain ⟨hl2, hOL2, hh2, hOH2, hFe2⟩ := hP1.own.log
  have hghF : gh ∈ F' := by rw [hFe2]; exact List.mem_append.2 (.inr (List.mem_append.2 (.inr (mem_blkR.2 (.inl rfl)))))
  have hgne : w.heap.size + 1 ≠ gh := by have := hF2 gh hghF; omega
  obtain ⟨q0, q1, q2, q3, q4⟩ := hP1.cells
  have qf := hP1.box.fz 4
  cases hp : placeTx tx s.2.2.2.2 with
  | none =>
    have HNO : Hid (heldNo s.2.2.2.2 tx = s.2.2.2.2) := by show _ = _; unfold heldNo; rw [hp]
    have HDL := Hid.mk' (i_delete_none (some ⟨gh, 0, none⟩) hn ch s.2.2.2.2 (w.heap.size + 1) kind tx (.slice a len cap) V hP1.own.see.held hCV hp)
    go_wp2_with fail
    refine HDL.out.mono ?_
    rintro e w6 ⟨rfl, hb6⟩
    have hP6 := hP1.below hb6
    clear q0 q1 q2 q3 q4 qf HDL
    have c4 := hP6.box.set 4 (by simp [shVals]) (.slice (some ⟨gh, 0, none⟩) hn ch)
    simp only [List.length_nil, Nat.zero_add] at c4
    have hO6 := hP6.own.keep (w' := w6.setCell ⟨w1.heap.size, 4, none⟩ (.slice (some ⟨gh, 0, none⟩) hn ch)) (fun j hj => c4.2.block j (hP6.own.lt j hj) (fun e => hP6.out (by rw [← Option.some.inj e]; exact hj)))
    have hY : InSh (w6.setCell ⟨w1.heap.size, 4, none⟩ (.slice (some ⟨gh, 0, none⟩) hn ch)) w1.heap.size 27 [] [] (some ⟨g8, 0, none⟩) (ln + 1) c8 (some ⟨gm, 0, none⟩) mn cm (some ⟨gh, 0, none⟩) hn ch (s.1, s.2.1 ++ [(kind, tx, ops)], s.2.2.1, s.2.2.2.1, s.2.2.2.2) F' := ⟨c4.1, hO6, hP6.out⟩
    have hRZ := (hRV.below hb6).grown c4.2 (fun e => by have := Option.some.inj e; omega)
    have hb60 := hBf.trans (hb6.mono hBf.size)
    have hBy := (hB.trans (hb60.mono hB.size)).grown c4.2 (hB.trans (hb60.mono hB.size)).size (fun j e => by cases e; have := hB.size; omega)
    have hFy : ∀ k ∈ F', W.heap.size ≤ k := hF2
    obtain ⟨q0, q1, q2, q3, q4⟩ := hP6.cells
    have qf := hP6.box.fz 4
    clear c4 hO6 hP6
    have z0 := hRZ.cell 0 _ rfl
    have z1 := hRZ.cell 1 _ rfl
    have z2 := hRZ.cell 2 _ rfl
    have z3 := hRZ.cell 3 _ rfl
    have z4 := hRZ.cell 4 _ rfl
    have hS5 := hRZ.set5 (.int .i64 s.1) (.slice (some ⟨g8, 0, none⟩) (ln + 1) c8) (.int .i64 s.2.2.1) (.slice (some ⟨gm, 0, none⟩) mn cm) (.slice (some ⟨gh, 0, none⟩) hn ch)
    simp only [List.length_nil, Nat.zero_add] at z0 z1 z2 z3 z4 hS5
    have f0 := hRZ.fz 0
    have f1 := hRZ.fz 1
    have f2 := hRZ.fz 2
    have f3 := hRZ.fz 3
    have f4 := hRZ.fz 4
    have hXR : w.heap.size + 1 + 1 ≠ w1.heap.size := by omega
    have hXR2 : w1.heap.size ≠ w.heap.size + 1 + 1 := by omega
    have hBz := hBy.grown hS5.2 hBy.size (fun j e => by cases e; omega)
    have hOz := hY.own.keep (fun j hj => hS5.2.block j (hY.own.lt j hj) (fun e => by have h1 := hFy j hj; have h2 := Option.some.inj e; omega))
    have hzc0 := hS5.1.cell 0 _ rfl
    have hzc1 := hS5.1.cell 1 _ rfl
    have hzc2 := hS5.1.cell 2 _ rfl
    have hzc3 := hS5.1.cell 3 _ rfl
    have hzc4 := hS5.1.cell 4 _ rfl
    simp only [List.length_nil, Nat.zero_add] at hzc0 hzc1 hzc2 hzc3 hzc4
    obtain ⟨y0, y1, y2, y3, y4⟩ := hY.cells
    have HP := Hid.mk' (retSh_mk (w := w) hOz (fun k hk => by have h1 := hFy k hk; omega) hBz)
    clear hOz hBz hS5 hY hRZ
    go_wp2_with fail
    refine bodyPost_ret (v := aggSh s.1 s.2.2.1 (some ⟨g8, 0, none⟩) (ln + 1) c8 (some ⟨gm, 0, none⟩) mn cm (some ⟨gh, 0, none⟩) hn ch) ?_ rfl (by rw [HNO.out]; exact HP.out)
    simp [results, Tryz.results92, go_sem, hzc0, hzc1, hzc2, hzc3, hzc4]
  | some k =>
    obtain ⟨hk, _⟩ := placeTx_some hp
    have HNO : Hid (heldNo s.2.2.2.2 tx = s.2.2.2.2.take k ++ s.2.2.2.2.drop (k + 1)) := by show _ = _; unfold heldNo; rw [hp]
    have HDL := Hid.mk' (i_delete_some gh hn ch s.2.2.2.2 hh2 (w.heap.size + 1) kind tx (.slice a len cap) V hOH2 hCV hgne hnd k hp)
    go_wp2_with fail
    refine HDL.out.mono ?_
    rintro e w6 ⟨rfl, hOE, hf6⟩
    clear q0 q1 q2 q3 q4 qf HDL
    have hPH := hP1.putHeld hOL2 hFe2 hf6 hOE (by rw [← List.eraseIdx_eq_take_drop_succ]; exact List.eraseIdx_sublist _ _)
    simp only [List.length_nil, Nat.zero_add] at hPH
    obtain ⟨F3, hY, hfy, hF3⟩ := hPH
    have hRF : w.heap.size + 1 + 1 ∉ w1.heap.size :: F' := fun e => by
      rcases List.mem_cons.1 e with e | e
      · omega
      · have := hF2 _ e; omega
    have hRZ := hRV.frame hfy hRF
    have hBy : Below w.heap.size w _ := (hB.trans (hBf.mono hB.size)).trans (hfy.bel (hB.trans (hBf.mono hB.size)).size (fun j e => by
      have := hB.size
      rcases List.mem_cons.1 e with e | e
      · omega
      · have := hF2 j e; omega))
    have hFy : ∀ k ∈ F3, W.heap.size ≤ k := fun k hk => hF2 k (hF3 k hk)
    have hb6x := hP1.box.frame hf6 (fun e => hP1.out (by rw [List.mem_singleton.1 e]; exact hghF))
    have q4 := hb6x.cell 4 _ rfl
    simp only [List.length_nil, Nat.zero_add] at q4
    have qf := hb6x.fz 4
    clear hb6x hOE hf6 hfy
    have z0 := hRZ.cell 0 _ rfl
    have z1 := hRZ.cell 1 _ rfl
    have z2 := hRZ.cell 2 _ rfl
    have z3 := hRZ.cell 3 _ rfl
    have z4 := hRZ.cell 4 _ rfl
    have hS5 := hRZ.set5 (.int .i64 s.1) (.slice (some ⟨g8, 0, none⟩) (ln + 1) c8) (.int .i64 s.2.2.1) (.slice (some ⟨gm, 0, none⟩) mn cm) (.slice (some ⟨gh, 0, none⟩) (hn - 1) ch)
    simp only [List.length_nil, Nat.zero_add] at z0 z1 z2 z3 z4 hS5
    have f0 := hRZ.fz 0
    have f1 := hRZ.fz 1
    have f2 := hRZ.fz 2
    have f3 := hRZ.fz 3
    have f4 := hRZ.fz 4
    have hXR : w.heap.size + 1 + 1 ≠ w1.heap.size := by omega
    have hXR2 : w1.heap.size ≠ w.heap.size + 1 + 1 := by omega
    have hBz := hBy.grown hS5.2 hBy.size (fun j e => by cases e; omega)
    have hOz := hY.own.keep (fun j hj => hS5.2.block j (hY.own.lt j hj) (fun e => by have h1 := hFy j hj; have h2 := Option.some.inj e; omega))
    have hzc0 := hS5.1.cell 0 _ rfl
    have hzc1 := hS5.1.cell 1 _ rfl
    have hzc2 := hS5.1.cell 2 _ rfl
    have hzc3 := hS5.1.cell 3 _ rfl
    have hzc4 := hS5.1.cell 4 _ rfl
    simp only [List.length_nil, Nat.zero_add] at hzc0 hzc1 hzc2 hzc3 hzc4
    obtain ⟨y0, y1, y2, y3, y4⟩ := hY.cells
    have HP := Hid.mk' (retSh_mk (w := w) hOz (fun k hk => by have h1 := hFy k hk; omega) hBz)
    clear hOz hBz hS5 hY hRZ
    go_wp2_with fail
    refine bodyPost_ret (v := aggSh s.1 s.2.2.1 (some ⟨g8, 0, none⟩) (ln + 1) c8 (some ⟨gm, 0, none⟩) mn cm (some ⟨gh, 0, none⟩) (hn - 1) ch) ?_ rfl (by rw [HNO.out]; exact HP.out)
    simp [results, Tryz.results92, go_sem, hzc0, hzc1, hzc2, hzc3, hzc4]
end Go.Proofs.YteniflajiklffaaGreatDoor.recs

namespace Go.Proofs.YteniflajiklffaaGreatDoor.ords
open Go Go.RowKit Go.Proofs.YteniflajiklffaaGreatDoor.base Go.Proofs.YteniflajiklffaaGreatDoor.pairs
set_option linter.unusedVariables false
set_option linter.unusedSimpArgs false

set_option maxRecDepth 100000 in
set_option maxHeartbeats 4000000 in
theorem impl_apply_nil (b2 off2 len2 cap2 : Nat) (l : List Od) (w : World) (h2 : SlO w (some ⟨b2, off2, none⟩) len2 l) (hsz : len2 ≤ 1099511627776) :
    Calls Tryz.prog 17 #[.slice none 0 0, .slice (some ⟨b2, off2, none⟩) len2 cap2] w fun e w' =>
      ∃ g' n' cap', e = .returned (.slice (some ⟨g', 0, none⟩) n' cap') ∧ OwnP w' w.heap.size g' n' cap' (applyAll [] l) ∧ Below w.heap.size w w' := by
  obtain ⟨i0, hif, hz0, hz1, hz2⟩ := info_parts infoP
  have hl2 := h2.1
  have hsm2 := h2.2.2.1
  subst hl2
  have hB1 : Below w.heap.size w (w.alloc (.cells #[] 74)) := (Below.refl _ _).alloc (Nat.le_refl _) _
  have hO1 := ownP_made w w.heap.size (Nat.le_refl _)
  have hown0 := hO1.2.2
  go_enter Tryz.func17, Tryz.ntmps17
  go_wp2_with (at_builtin; refine wpList_append_own_none rfl (.tmp 8) (.tmp 9) 25 rfl w.heap.size 74 i0 2 Tryz.underlying25 hif _ _ _ rfl hown0 rfl ?_)
  clear hown0
  go_wp2_with (at_builtin; fail)
  go_loopw [5, 13] (fun v i wr => ∃ (k g n cp : Nat), k ≤ l.length ∧ n ≤ k ∧ i = .int .i64 (k : Int) ∧ v = .slice (some ⟨g, 0, none⟩) n cp ∧ OwnP wr w.heap.size g n cp (applyAll [] (l.take k)) ∧ Below w.heap.size w wr) (fun _ i _ => l.length - (intOf i).toNat)
  case atStart => exact ⟨0, w.heap.size, 0, 0, Nat.zero_le _, by omega, rfl, rfl, hO1, hB1⟩
  case round =>
    clear hO1 hB1
    obtain ⟨k, g, n, cp, hk, hn, rfl, rfl, hO, hB⟩ := hrel
    by_cases hlt : k < l.length
    · obtain ⟨c0, c1, c2⟩ := (h2.below hB).cells k hlt
      have hpk := hsm2 _ (List.getElem_mem hlt)
      have hki : (k : Int) < (l.length : Int) := by omega
      have HU := Hid.mk' (apply_take [] l k hlt)
      have hpl := apply1_length (applyAll [] (l.take k)) l[k]
      have hcs := hO.cases
      have hul := hO.1
      have hBA : Below w.heap.size w (wr.alloc (.cells #[.int .i64 l[k].1, .string l[k].2.1, .string l[k].2.2] 85)) := hB.alloc hB.size _
      have hOA : OwnP (wr.alloc (.cells #[.int .i64 l[k].1, .string l[k].2.1, .string l[k].2.2] 85)) w.heap.size g n cp (applyAll [] (l.take k)) := hO.below ((Below.refl _ _).alloc (Nat.le_refl _) _)
      generalize l[k] = p at *
      generalize applyAll [] (l.take k) = u at *
      obtain ⟨z, key, val⟩ := p
      simp only [] at c0 c1 c2 hpk hBA hOA
      by_cases hz : z = 1
      · subst hz
        have HU2 : Hid (applyAll [] (l.take (k + 1)) = putKey key val u) := by show _ = _; rw [HU.out]; rfl
        have hpl2 := (putKey_length key val u).1
        have HP := Hid.mk' (impl_putKey g 0 n cp u key val _ hOA.sl hcs.1 (by omega) hpk.2.1 hpk.2.2)
        clear HU hpl hOA hO hB
        go_wp2_with (at_builtin; fail)
        refine HP.out.mono ?_
        rintro e w5 ⟨g5, n5, cp5, rfl, hO5, hb5⟩
        have hB5 : Below w.heap.size w w5 := hBA.trans (hb5.mono hBA.size)
        have hO5' := hO5.mono (base' := w.heap.size) hBA.size
        rw [← HU2.out] at hO5'
        have hn5 : n5 ≤ k + 1 := by have := hO5.1; omega
        have HO5 := Hid.mk' hO5'
        clear hb5 hO5 hO5' hBA c0 c1 c2 HP
        go_wp2_with (at_builtin; fail)
        go_roundw
        case rel => exact ⟨k + 1, g5, n5, cp5, by omega, hn5, by go_num, rfl, HO5.out, hB5⟩
        case measure => simp [intOf]; omega
      · have hb1 : (z == 1) = false := beq_eq_false_iff_ne.2 hz
        by_cases hz2 : z = 2
        · subst hz2
          have HU2 : Hid (applyAll [] (l.take (k + 1)) = delKey key u) := by show _ = _; rw [HU.out]; rfl
          have hpl2 : (delKey key u).length ≤ u.length := List.length_filter_le _ _
          have HP := Hid.mk' (impl_delKey g 0 n cp u key _ hOA.sl hcs.1 (by omega) hpk.2.1)
          clear HU hpl hz hOA hO hB
          go_wp2_with (at_builtin; fail)
          refine HP.out.mono ?_
          rintro e w5 ⟨g5, n5, cp5, rfl, hO5, hb5⟩
          have hB5 : Below w.heap.size w w5 := hBA.trans (hb5.mono hBA.size)
          have hO5' := hO5.mono (base' := w.heap.size) hBA.size
          rw [← HU2.out] at hO5'
          have hn5 : n5 ≤ k + 1 := by have := hO5.1; omega
          have HO5 := Hid.mk' hO5'
          clear hb5 hO5 hO5' hBA c0 c1 c2 HP
          go_wp2_with (at_builtin; fail)
          go_roundw
          case rel => exact ⟨k + 1, g5, n5, cp5, by omega, hn5, by go_num, rfl, HO5.out, hB5⟩
          case measure => simp [intOf]; omega
        · have hb2 : (z == 2) = false := beq_eq_false_iff_ne.2 hz2
          have HU2 : Hid (applyAll [] (l.take (k + 1)) = u) := by show _ = _; rw [HU.out]; unfold apply1; rw [if_neg hz, if_neg hz2]
          clear HU hpl hz hz2 hO hB
          go_wp2_with (at_builtin; fail)
          go_roundw
          case rel => exact ⟨k + 1, g, n, cp, by omega, by omega, by go_num, rfl, by rw [HU2.out]; exact hOA, hBA⟩
          case measure => simp [intOf]; omega
    · have HE : Hid (l.take k = l) := List.take_of_length_le (by omega)
      go_wp2_with (at_builtin; fail)
      go_ret
      rw [HE.out] at hO
      exact ⟨g, n, cp, rfl, hO, hB⟩

end Go.Proofs.YteniflajiklffaaGreatDoor.ords
