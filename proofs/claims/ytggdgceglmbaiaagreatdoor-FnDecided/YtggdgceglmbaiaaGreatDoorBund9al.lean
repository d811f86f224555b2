/- The program's replay: a record of the call's own, and what is held. What the program keeps from record to record is what the specification keeps: plain mathematics. The program's ReplayRecs. Rows of whole numbers: small facts on worlds; no function of the program is named here. -/
import Derived.Test.YtggdgceglmbaiaaGreatDoorBund9ak
import Derived.Laws.CopyOwn
import Derived.Laws.CopyRow
import Derived.Test.YtggdgceglmbaiaaGreatDoorBund9aa
import Derived.Test.YtggdgceglmbaiaaGreatDoorBund9ad
import Derived.OwnWalk
namespace Go.Proofs.YtggdgceglmbaiaaGreatDoor.recs
open Go Go.RowKit Go.Proofs.YtggdgceglmbaiaaGreatDoor.base Go.Proofs.YtggdgceglmbaiaaGreatDoor.pairs Go.Proofs.YtggdgceglmbaiaaGreatDoor.ords
set_option linter.unusedVariables false
set_option linter.unusedSimpArgs false

theorem boxR_setW {X : Nat} {k t : Int} {v : Value} {w : World} (h : BoxR X k t v w) (a b c : Value) :
    ((((w.setCell ⟨X, 0, none⟩ a).setCell ⟨X, 1, none⟩ b).setCell ⟨X, 2, none⟩ c).heap[X]? = some (.cells #[a, b, c] 36 (0, 0))) ∧ w.grownBy (((w.setCell ⟨X, 0, none⟩ a).setCell ⟨X, 1, none⟩ b).setCell ⟨X, 2, none⟩ c) (some X) := by
  have h0 : w.heap[X]? = some (.cells #[.int .i64 k, .int .i64 t, v] 36 (0, 0)) := h
  have s0 := set_cur h0 0 a
  have s1 := set_cur s0.1 1 b
  have s2 := set_cur s1.1 2 c
  exact ⟨s2.1, grownBy_trans (grownBy_trans s0.2 s1.2) s2.2⟩
theorem BoxR.fz {X : Nat} {k t : Int} {v : Value} {w : World} (h : BoxR X k t v w) (j : Nat) : w.frozen? ⟨X, j, none⟩ = false := by unfold BoxR at h; simp [World.frozen?, h]
/-- all orders of a slice copied into a row of as many -/
theorem run_copy_ord (w : World) (g L dCap : Nat) (a : Option Addr) (sCap : Nat) (cur : Array Value) (l : List Od) (hl : l.length = L) (ty : TypeId)
    (hg : w.heap[g]? = some (.cells cur 65 (0, 0))) (hc : cur.size = L * 3) (hsrc : SlO w a L l) :
    (Builtin.copy_ #[34, 34] ty #[.slice (some ⟨g, 0, none⟩) L dCap, .slice a L sCap]).run Tryz.prog w = .ok (goInt L) (w.setRow g (ordVals l).toArray) := by
  obtain ⟨i0, hi, hz0, hz1, hz2⟩ := info_parts infoO
  by_cases h0 : L = 0
  · subst h0
    have e1 : l = [] := List.eq_nil_of_length_eq_zero hl
    subst e1
    have e2 : cur = #[] := Array.eq_empty_of_size_eq_zero (by omega)
    subst e2
    have hs0 : w.setRow g (ordVals []).toArray = w := setRow_self w g #[] _ (0, 0) hg
    rw [hs0]
    cases a with
    | none => simp [Builtin.copy_, run_underlying Tryz.underlying34, Builtin.lenOf, Builtin.firstCells, sizeOf, typeInfo, hi, hz1, storeCells]
    | some ad => simp [Builtin.copy_, run_underlying Tryz.underlying34, Builtin.lenOf, Builtin.firstCells, sizeOf, typeInfo, hi, hz1, storeCells, loadCells, loadCellsFrom]
  · obtain ⟨b, off, ha, _⟩ := hsrc.2.2.2 (by omega)
    subst ha
    have hcs := cells_ords hsrc.cells
    have hld := run_loadCells_list (P := Tryz.prog) w ⟨b, off, none⟩ (ordVals l) hcs
    have hst := run_storeCells_at Tryz.prog g 0 65 (ordVals l) 0 cur w hg (by rw [ordVals_length]; omega) (ordVals_oneCell l)
    have hdr : cur.toList.drop (ordVals l).length = [] := List.drop_eq_nil_of_le (by rw [ordVals_length]; simp; omega)
    simp only [Nat.zero_add, List.take_zero, List.nil_append, hdr, List.append_nil] at hst
    rw [ordVals_length, hl] at hld
    simp [Builtin.copy_, run_underlying Tryz.underlying34, Builtin.lenOf, Builtin.firstCells, sizeOf, typeInfo, hi, hz1, hld, hst]
theorem wpList_copy_ord {w : World} {ops : Array Oper} {rest : List Oper} {o : Oper} {a : Act} {Q : Exit → Act → World → Prop} (hgd : o.guard = none) (d s : Operand)
    (ho : o.op = .call { callee := .builtin .copy, args := #[d, s], argTypes := #[34, 34] })
    (g L dCap : Nat) (ad : Option Addr) (sCap : Nat) (cur : Array Value) (l : List Od) (hl : l.length = L) (hd : a.eval d = .slice (some ⟨g, 0, none⟩) L dCap) (hs : a.eval s = .slice ad L sCap)
    (hg : w.heap[g]? = some (.cells cur 65 (0, 0))) (hc : cur.size = L * 3) (hsrc : SlO w ad L l)
    (h : ∀ w', w'.heap[g]? = some (.cells (ordVals l).toArray 65 (0, 0)) → w.grownBy w' (some g) → wpList Tryz.prog ops Q rest (a.put o.dst (goInt L)) w') : wpList Tryz.prog ops Q (o :: rest) a w := by
  refine wpList_plain hgd fun K hK => ?_
  have hrun := run_copy_ord w g L dCap ad sCap cur l hl o.type hg hc hsrc
  unfold Oper.wp
  simp [execOp, ho, resolve, invoke, builtin, hd, hs, hrun, Result.andThen]
  exact hK _ _ (h _ (setRow_heap w g cur _ _ (0, 0) hg) ⟨rfl, rfl, rfl, by simp [World.setRow], fun k hk hne => setRow_other w g k _ (by intro e; exact hne (by rw [e]))⟩)
theorem ownO_of_row {w : World} {base g n : Nat} {l : List Od} (hn : l.length = n) (hsm : ∀ p ∈ l, smallO p) (hm : n ≤ maxLen) (hb : base ≤ g) (h : w.heap[g]? = some (.cells (ordVals l).toArray 65 (0, 0))) : OwnO w base g n n l :=
  ⟨hn, hsm, by rw [ordVals_length]; omega, .inr ⟨g, n, _, rfl, hb, h, Nat.le_refl _, hm, by simp [ordVals_length, hn], by rw [List.take_of_length_le (by simp [ordVals_length]; omega)]⟩⟩

set_option maxRecDepth 100000 in
set_option maxHeartbeats 2000000 in
theorem i_ownRec (kind tx : Int) (a : Option Addr) (len cap : Nat) (l : List Od) (w : World) (h : SlO w a len l) (hsz : len ≤ 1099511627776) :
    Calls Tryz.prog 63 #[.agg #[.int .i64 kind, .int .i64 tx, .slice a len cap]] w fun e w' =>
      ∃ g, e = .returned (.agg #[.int .i64 kind, .int .i64 tx, .slice (some ⟨g, 0, none⟩) len len]) ∧ OwnO w' w.heap.size g len len l ∧ Below w.heap.size w w' := by
  obtain ⟨i0, hi, hz0, hz1, hz2⟩ := info_parts infoO
  obtain ⟨W, hW⟩ : ∃ W, W = (w.alloc (.cells #[.int .i64 kind, .int .i64 tx, .slice a len cap] 36)).alloc (.cells #[.int .i64 0, .int .i64 0, .slice none 0 0] 36) := ⟨_, rfl⟩
  have hba : Below w.heap.size w (w.alloc (.cells #[.int .i64 kind, .int .i64 tx, .slice a len cap] 36)) := (Below.refl _ _).alloc (Nat.le_refl _) _
  have hB : Below w.heap.size w W := by rw [hW]; exact hba.alloc hba.size _
  have hT : BoxR w.heap.size kind tx (.slice a len cap) W := by rw [hW]; exact (boxR_new w _ _ _).below ((Below.refl _ _).alloc (Nat.le_refl _) _)
  have hR : BoxR (w.heap.size + 1) 0 0 (.slice none 0 0) W := by
    rw [hW]
    have := boxR_new (w.alloc (.cells #[.int .i64 kind, .int .i64 tx, .slice a len cap] 36)) 0 0 (.slice none 0 0)
    rwa [show (w.alloc (.cells #[.int .i64 kind, .int .i64 tx, .slice a len cap] 36)).heap.size = w.heap.size + 1 by simp] at this
  have HW := Hid.mk' hW.symm
  have hl := h.1
  have hsm := h.2.2.1
  have hlm := h.2.1
  have hll : (len : Int) ≤ 1099511627776 := by omega
  have hWz : W.heap.size = w.heap.size + 1 + 1 := by rw [hW]; simp
  have hBz : w.heap.size ≤ ((w.alloc (.cells #[.int .i64 kind, .int .i64 tx, .slice a len cap] 36)).alloc (.cells #[.int .i64 0, .int .i64 0, .slice none 0 0] 36)).heap.size := by rw [← hW]; exact hB.size
  obtain ⟨d0, d1, d2⟩ := hT.cells
  rw [hW] at d0 d1 d2
  have HWZ := Hid.mk' hWz
  clear hW hWz
  go_enter Tryz.func63, Tryz.ntmps63
  go_wp2_with (at_make; refine wpList_make_full _ rfl _ _ 34 rfl w.heap.size 65 i0 (.agg #[.int .i64 0, .string ⟨#[]⟩, .string ⟨#[]⟩]) 3 Tryz.underlying34 hi hz0 hz1 _ _ _ _ len rfl rfl rfl rfl ?b2 ?b3 ?b4 ?_)
  case b2 => rw [hz2]; omega
  case b3 => exact hlm
  case b4 => exact hBz
  intro w2 hown2 hgrow2
  rw [HW.out] at hgrow2
  have hb2 : Below W.heap.size W w2 := (Below.refl _ _).grown hgrow2 (Nat.le_refl _) (fun k e => by cases e)
  have hT2 := hT.below hb2
  have hR2 := hR.below hb2
  have hB2 := hB.trans (hb2.mono hB.size)
  obtain ⟨cur, hgc, hcs⟩ : ∃ cur : Array Value, w2.heap[w.heap.size + 1 + 1]? = some (.cells cur 65 (0, 0)) ∧ cur.size = len * 3 := by
    rcases hown2.2 with ⟨h', _⟩ | ⟨g', cap', cur, h', _, hg, _, _, hs, _⟩
    · simp at h'
    · simp at h'
      obtain ⟨rfl, rfl⟩ := h'
      exact ⟨cur, hg, hs⟩
  have hS2 := h.below hB2
  clear d0 d1 d2 hown2 hgrow2 hBz
  obtain ⟨d0, d1, d2⟩ := hT2.cells
  go_wp2_with (refine wpList_copy_ord rfl (.tmp 8) (.tmp 10) rfl (w.heap.size + 1 + 1) len _ _ _ cur l hl rfl rfl hgc hcs hS2 ?_)
  intro w3 hrow3 hg3
  have hT3 := hT2.grown hg3 (by simp; omega)
  have hR3 := hR2.grown hg3 (by simp)
  have hB3 := hB2.grown hg3 hB2.size (fun k e => by cases e; omega)
  have hO3 : OwnO w3 w.heap.size (w.heap.size + 1 + 1) len len l := ownO_of_row hl hsm hlm (by omega) hrow3
  clear d0 d1 d2
  obtain ⟨d0, d1, d2⟩ := hT3.cells
  obtain ⟨r0, r1, r2⟩ := hR3.cells
  have f0 := hR3.fz 0
  have f1 := hR3.fz 1
  have f2 := hR3.fz 2
  obtain ⟨z, zg⟩ := boxR_setW hR3 (.int .i64 kind) (.int .i64 tx) (.slice (some ⟨w.heap.size + 1 + 1, 0, none⟩) len len)
  have hz : BoxR (w.heap.size + 1) kind tx (.slice (some ⟨w.heap.size + 1 + 1, 0, none⟩) len len) _ := z
  have hzc := hz.cells
  have HBz := Hid.mk' (hB3.grown zg hB3.size (fun j e => by cases e; omega))
  have HOz := Hid.mk' (hO3.grown zg (by simp))
  clear hrow3 hg3 hgc
  go_wp2_with fail
  refine bodyPost_ret (v := .agg #[.int .i64 kind, .int .i64 tx, .slice (some ⟨w.heap.size + 1 + 1, 0, none⟩) len len]) ?_ rfl ⟨_, rfl, HOz.out, HBz.out⟩
  simp [results, Tryz.results63, go_sem, hzc.1, hzc.2.1, hzc.2.2]
theorem infoRW : (Tryz.prog.info? 36).map (fun i => (i.zero, i.size, i.bytes)) = some (some (.agg #[.int .i64 0, .int .i64 0, .slice none 0 0]), 3, 40) := by kernel_rfl
theorem rec_cellsW (w : World) (a b : Int) (v : Value) (t : TypeId) : ∀ j u, ([.int .i64 a, .int .i64 b, v] : List Value)[j]? = some u → (w.alloc (.cells #[.int .i64 a, .int .i64 b, v] t)).cell? ((⟨w.heap.size, 0, none⟩ : Addr).add j) = some u := cells_three w (.int .i64 a) (.int .i64 b) v t
theorem rec_oneW (a b : Int) {v : Value} (h : v.oneCell' = true) : ∀ u ∈ ([.int .i64 a, .int .i64 b, v] : List Value), u.oneCell' = true := by
  intro u hu
  simp at hu
  rcases hu with rfl | rfl | rfl
  · rfl
  · rfl
  · exact h
/-- what is still held -/
def stillHeld (f : Int → Rc) (l : List Rc) : List Rc := l.filter fun r => decide ((f r.2.1).1 = 1)
theorem still_snoc (f : Int → Rc) (l : List Rc) (k : Nat) (h : k < l.length) : stillHeld f (l.take (k + 1)) = if (f l[k].2.1).1 = 1 then stillHeld f (l.take k) ++ [l[k]] else stillHeld f (l.take k) := by
  unfold stillHeld
  rw [List.take_succ_eq_append_getElem h, List.filter_append]
  by_cases e : (f l[k].2.1).1 = 1
  · rw [if_pos e]; simp [e]
  · rw [if_neg e]; simp [e]
theorem still_le (f : Int → Rc) (l : List Rc) : (stillHeld f l).length ≤ l.length := List.length_filter_le _ _

set_option maxRecDepth 100000 in
set_option maxHeartbeats 4000000 in
theorem i_heldOf (X B1 B2 n1 : Nat) (pv : Value) (f : Int → Rc) (a : Option Addr) (len cap : Nat) (l : List Rc) (w0 w : World) (hM : BoxM X pv B1 B2 w) (hL : Lasts w0 w B1 n1 f) (h : SlR w a len l) (hsz : len ≤ 1099511627776) (hops : ∀ r ∈ l, r.2.2.length ≤ 1099511627776) :
    Calls Tryz.prog 72 #[.pointer (some ⟨X, 0, none⟩), .slice a len cap] w fun e w' =>
      ∃ g cp hs, e = .returned (.slice (some ⟨g, 0, none⟩) (stillHeld f l).length cp) ∧ OwnR w' w.heap.size (.slice (some ⟨g, 0, none⟩) (stillHeld f l).length cp) (stillHeld f l) hs ∧ Below w.heap.size w w' := by
  obtain ⟨i0, hi, hz0, hz1, hz2⟩ := info_parts infoRW
  obtain ⟨hl, hm, hsm, hc⟩ := id h
  subst hl
  unfold maxLen at hm
  have hba : Below w.heap.size w (w.alloc (.cells #[] 36)) := (Below.refl _ _).alloc (Nat.le_refl _) _
  have hOm := ownR_made w w.heap.size (Nat.le_refl _)
  go_enter Tryz.func72, Tryz.ntmps72
  go_wp2_with (at_builtin; fail)
  go_loopw [5, 11] (fun ov iv wr => ∃ (k g cp : Nat) (hs : List Value), k ≤ l.length ∧ ov = .slice (some ⟨g, 0, none⟩) (stillHeld f (l.take k)).length cp ∧ iv = .int .i64 (k : Int) ∧ OwnR wr w.heap.size (.slice (some ⟨g, 0, none⟩) (stillHeld f (l.take k)).length cp) (stillHeld f (l.take k)) hs ∧ Below w.heap.size w wr) (fun _ iv _ => l.length - (intOf iv).toNat)
  case atStart => exact ⟨0, w.heap.size, 0, [], Nat.zero_le _, rfl, rfl, hOm, hba⟩
  case round =>
    clear hOm hba
    obtain ⟨k, g, cp, hs, hk, rfl, rfl, hO, hB⟩ := hrel
    have hbw := hB.size
    by_cases hlt : k < l.length
    · obtain ⟨b, off, ha, _⟩ := hc (by omega)
      subst ha
      obtain ⟨c0, c1, pa, pl, pc, c2, hSo, _⟩ := (h.at k hlt).below hB
      have hki : (k : Int) < (l.length : Int) := by omega
      have hsr := hsm _ (List.getElem_mem hlt)
      have htw : (Lit.int .i64 l[k].2.1).wf = true := hsr.2.1
      have hol := hops _ (List.getElem_mem hlt)
      have HST := Hid.mk' (still_snoc f l k hlt)
      have hsl := still_le f (l.take k)
      have htk : (l.take k).length ≤ k := List.length_take_le _ _
      generalize l[k] = r at *
      generalize stillHeld f (l.take k) = acc at *
      obtain ⟨W, hW⟩ : ∃ W, W = wr.alloc (.cells #[.int .i64 r.1, .int .i64 r.2.1, .slice pa pl pc] 36) := ⟨_, rfl⟩
      have hba : Below wr.heap.size wr W := by rw [hW]; exact (Below.refl _ _).alloc (Nat.le_refl _) _
      have hbx : BoxR wr.heap.size r.1 r.2.1 (.slice pa pl pc) W := by rw [hW]; exact boxR_new _ _ _ _
      have hBW := hB.trans (hba.mono hbw)
      have hMW := hM.below hBW
      have hLW := hL.below hBW
      have hOW := hO.below hba
      obtain ⟨la, lm, lc, hla, hls, hlk0⟩ := hLW.look htw
      have hlk : ∀ x : last.On W.heap.size W, (Instr.lookup 117 (.map (some B1)) (.int .i64 r.2.1) false).run Tryz.prog x.w = .ok (.agg #[.int .i64 (f r.2.1).1, .int .i64 (f r.2.1).2.1, .slice la lm lc]) x.w := fun x => hlk0 _ (x.2.block B1 hLW.lt)
      have hfd := field0
      obtain ⟨x0, x1, x2⟩ := hMW.cells
      obtain ⟨d0, d1, d2⟩ := hbx.cells
      have y1 := last.On.cell x1 hMW.lt
      have z1 := last.On.cell d1 hbx.lt
      have hinh := last.On.inh W.heap.size W
      have HW := Hid.mk' hW.symm
      have hSW := hSo.below hba
      clear hW hlk0 hO x0 x1 x2 d0 d1 d2 hSo
      by_cases hh : (f r.2.1).1 = 1
      · have hhb : ((f r.2.1).1 == 1) = true := by rw [hh]; rfl
        rw [if_pos hh] at HST
        go_wp2_with (at_builtin; fail)
        rw [HW.out]
        refine last.wp_region_on W.heap.size (by kernel_rfl) (by kernel_rfl) ?_
        repeat (go_big_quiet_step (fail))
        refine wpQuiet_nil ?_
        intro w2 hw2
        obtain ⟨x2', hw2⟩ := hw2
        have hb2 : Below W.heap.size W w2 := by rw [hw2]; exact x2'.2
        clear hw2 x2' hinh hlk y1 z1 hfd HW c0 c1 c2
        have hO2 := hOW.below hb2
        have hB2 := hBW.trans (hb2.mono hBW.size)
        obtain ⟨d0, d1, d2⟩ := (hbx.below hb2).cells
        have hpl := hSW.1
        have HOR := Hid.mk' (i_ownRec r.1 r.2.1 pa pl pc r.2.2 w2 (hSW.below hb2) (by omega))
        go_wp2_with (at_builtin; fail)
        refine HOR.out.mono ?_
        rintro e w3 ⟨g3, rfl, hO3, hb3⟩
        have hV3 := (ownV_of hO3).mono (base' := w.heap.size) hB2.size
        have hOa := hO2.below hb3
        have hB3 := hB2.trans (hb3.mono hB2.size)
        have hg3 := hO3.lt
        have hout : ∀ j, (Value.slice (some ⟨g3, 0, none⟩) pl pl).ownBlock = some j → ¬ BlkR (.slice (some ⟨g, 0, none⟩) acc.length cp) hs j := fun j hj hb => by
          have e1 : g3 = j := by simpa [Value.ownBlock] using hj
          have := (hO2.lt j hb).2
          omega
        have HOU := Hid.mk' hout
        have hbn : Below w3.heap.size w3 (w3.alloc (.cells #[.int .i64 r.1, .int .i64 r.2.1, .slice (some ⟨g3, 0, none⟩) pl pl] 36)) := (Below.refl _ _).alloc (Nat.le_refl _) _
        have hO4 := hOa.below hbn
        have hV4 := hV3.below hbn
        have hB4 := hB3.trans (hbn.mono hB3.size)
        have HOC := Hid.mk' (rec_cellsW w3 r.1 r.2.1 (.slice (some ⟨g3, 0, none⟩) pl pl) 36)
        have HON := Hid.mk' (rec_oneW r.1 r.2.1 hV3.one)
        have hc3 : acc.length + 1 ≤ maxLen := by unfold maxLen; omega
        have hc4 : (acc.length + 1) * 40 ≤ 140737488355328 := by omega
        clear HOR hO3 hb3 hV3 hOa hB3 hbn hout hO2 hB2 d0 d1 d2
        go_wp2_with (at_builtin; refine wpList_append_own _ rfl (.tmp 24) (.tmp 27) 24 rfl w.heap.size 36 i0 (.agg #[.int .i64 0, .int .i64 0, .slice none 0 0]) 3 40 Tryz.underlying24 hi hz0 hz1 hz2 rfl (by decide) _ _ _ rfl hO4.row ⟨w3.heap.size, 0, none⟩ 1 1 _ rfl rfl HOC.out HON.out hc3 hc4 hB4.size ?_)
        intro v5 w5 hown5 hgrow5 hnn5
        have hnn' : ¬ v5 = .slice none 0 0 := by simpa using hnn5
        have hO5 := hO4.snoc hV4 hsr HOU.out hown5 hgrow5
        have hB5 : Below w.heap.size w w5 := hB4.grown hgrow5 hB4.size (fun j e => (hO4.row.lt j e).1)
        rw [← HST.out] at hO5
        rcases hO5.shape with ⟨hv5, _⟩ | ⟨g5, cp5, hv5, _⟩
        · exact absurd hv5 hnn'
        · subst hv5
          have HO5 := Hid.mk' hO5
          clear hown5 hgrow5 hnn5 hnn' hO5 hO4 hB4 hV4 HOC HON HOU
          go_wp2_with (at_builtin; fail)
          go_roundw
          case rel => exact ⟨k + 1, g5, cp5, _, by omega, by rw [HST.out], by go_num, HO5.out, hB5⟩
          case measure => simp [intOf]; omega
      · have hhb : ((f r.2.1).1 == 1) = false := beq_eq_false_iff_ne.2 hh
        rw [if_neg hh] at HST
        go_wp2_with (at_builtin; fail)
        rw [HW.out]
        refine last.wp_region_on W.heap.size (by kernel_rfl) (by kernel_rfl) ?_
        repeat (go_big_quiet_step (fail))
        refine wpQuiet_nil ?_
        intro w2 hw2
        obtain ⟨x2', hw2⟩ := hw2
        have hb2 : Below W.heap.size W w2 := by rw [hw2]; exact x2'.2
        clear hw2 x2' hinh hlk y1 z1 hfd HW c0 c1 c2
        have hO2 := hOW.below hb2
        have hB2 := hBW.trans (hb2.mono hBW.size)
        rw [← HST.out] at hO2
        have hLN : Hid (acc.length = (stillHeld f (l.take (k + 1))).length) := by show _ = _; rw [HST.out]
        go_wp2_with (at_builtin; fail)
        go_roundw
        case rel => exact ⟨k + 1, g, cp, hs, by omega, by rw [hLN.out], by go_num, hO2, hB2⟩
        case measure => simp [intOf]; omega
    · have HE : Hid (l.take k = l) := List.take_of_length_le (by omega)
      have hLN : Hid (stillHeld f (l.take k) = stillHeld f l) := by show _ = _; rw [HE.out]
      have hex : ¬ (k : Int) < (l.length : Int) := by omega
      rw [hLN.out] at hO ⊢
      go_wp2_with (at_builtin; fail)
      go_ret
      exact ⟨g, cp, rfl, ⟨hs, hO⟩, hB⟩
end Go.Proofs.YtggdgceglmbaiaaGreatDoor.recs

namespace Go.Proofs.YtggdgceglmbaiaaGreatDoor.recs
open Go Go.RowKit Go.Proofs.YtggdgceglmbaiaaGreatDoor.base Go.Proofs.YtggdgceglmbaiaaGreatDoor.pairs Go.Proofs.YtggdgceglmbaiaaGreatDoor.ords
set_option linter.unusedVariables false
set_option linter.unusedSimpArgs false

/-- the pairs behind a record that fits -/
def nextP (m : List Pr) (f : Int → Rc) (r : Rc) : List Pr := if r.1 = 2 then applyAll m (f r.2.1).2.2 else m
def nextH (f : Int → Rc) (hf : ByteArray → Nat) (r : Rc) : ByteArray → Nat := putK (delK hf (f r.2.1).2.2) r.2.2 r.2.1.toNat
structure Rel (pre : List Rc) (s : St) (f : Int → Rc) (hf : ByteArray → Nat) : Prop where
  new : ∀ tx, tx ∉ s.2.2 → f tx = (0, 0, [])
  old : ∀ tx, tx ∈ s.2.2 → (f tx).1 ≠ 0
  held : ∀ r ∈ s.2.1, f r.2.1 = r ∧ recOk r = true ∧ r.1 = 1
  back : ∀ tx, (f tx).1 = 1 → f tx ∈ s.2.1 ∧ (f tx).2.1 = tx
  bare : ∀ tx, (f tx).1 ≠ 1 → (f tx).2.2 = []
  keys : ∀ key, hf key ≠ 0 ↔ ∃ r ∈ s.2.1, hasKey r.2.2 key = true
  still : s.2.1 = stillHeld f pre
  met : ∀ r ∈ pre, r.2.1 ∈ s.2.2
  few : s.1.length ≤ 60
  apart : s.2.1.Pairwise fun a b => a.2.1 ≠ b.2.1 ∧ ∀ key, hasKey a.2.2 key = true → hasKey b.2.2 key = false
theorem hasKey_iff (ops : List Od) (s : ByteArray) : hasKey ops s = true ↔ ∃ o ∈ ops, o.2.1 = s := by simp [hasKey]
theorem delK_nil (h : ByteArray → Nat) : delK h [] = h := rfl
theorem putK_nil (h : ByteArray → Nat) (t : Nat) : putK h [] t = h := rfl
theorem locked_iff (held : List Rc) (ops : List Od) : locked held ops = true ↔ ∃ r ∈ held, ∃ o ∈ ops, hasKey r.2.2 o.2.1 = true := by
  unfold locked
  simp only [List.any_eq_true, decide_eq_true_eq, hasKey_iff]
  constructor
  · rintro ⟨r, hr, o, ho, p, hp, e⟩; exact ⟨r, hr, p, hp, o, ho, e⟩
  · rintro ⟨r, hr, p, hp, o, ho, e⟩; exact ⟨r, hr, o, ho, p, hp, e⟩
theorem rel_start : Rel [] ([], [], []) (fun _ => (0, 0, [])) (fun _ => 0) :=
  ⟨fun _ _ => rfl, fun _ h => absurd h List.not_mem_nil, fun _ h => absurd h List.not_mem_nil, fun _ h => by simp at h, fun _ _ => rfl, fun key => by simp, rfl, fun _ h => absurd h List.not_mem_nil, Nat.zero_le _, List.Pairwise.nil⟩
theorem cut_is {held : List Rc} {tx : Int} {k : Nat} (hp : held.Pairwise fun a b => a.2.1 ≠ b.2.1) (h : placeTx tx held = some k) : held.take k ++ held.drop (k + 1) = held.filter fun r => decide (r.2.1 ≠ tx) := by
  induction held generalizing k with
  | nil => cases h
  | cons r l ih =>
    rw [List.pairwise_cons] at hp
    rw [placeTx] at h
    split at h
    · next e =>
      cases h
      have : l.filter (fun r => decide (r.2.1 ≠ tx)) = l := List.filter_eq_self.2 fun x hx => by
        have := hp.1 x hx
        rw [e] at this
        simp; exact fun e2 => this e2.symm
      simp [List.filter_cons, e]
      simpa using this.symm
    · next e =>
      cases hq : placeTx tx l with
      | none => rw [hq] at h; cases h
      | some j =>
        rw [hq] at h
        simp only [Option.map_some, Option.some.injEq] at h
        subst h
        have := ih hp.2 hq
        simp only [List.take_succ_cons, List.drop_succ_cons, List.cons_append]
        rw [this]
        simp [List.filter_cons, e]
section
variable {pre : List Rc} {s : St} {f : Int → Rc} {hf : ByteArray → Nat}
theorem Rel.tx_in (h : Rel pre s f hf) {r : Rc} (hr : r ∈ s.2.1) : r.2.1 ∈ s.2.2 := by
  by_cases e : r.2.1 ∈ s.2.2
  · exact e
  · have h1 := h.new _ e
    obtain ⟨h2, _, h4⟩ := h.held r hr
    rw [h1] at h2
    rw [← h2] at h4
    simp at h4
theorem Rel.zero (h : Rel pre s f hf) (tx : Int) : (f tx).1 = 0 ↔ tx ∉ s.2.2 := by
  constructor
  · intro e hin; exact h.old tx hin e
  · intro e; rw [h.new tx e]
theorem still_upd (h : Rel pre s f hf) (tx : Int) (r : Rc) (htx : tx ∉ s.2.2) : stillHeld (updR f tx r) pre = stillHeld f pre := by
  unfold stillHeld
  refine List.filter_congr fun x hx => ?_
  have : x.2.1 ≠ tx := fun e => htx (e ▸ h.met x hx)
  unfold updR
  rw [if_neg this]
theorem rel_fits (h : Rel pre s f hf) (r : Rc) (hok : recOk r = true) : fitsP s.1 f hf r = true ↔ (if r.1 = 1 then r.2.1 ∉ s.2.2 ∧ locked s.2.1 r.2.2 = false ∧ meets s.1 r.2.2 = true else if r.1 = 2 then (f r.2.1).1 = 1 else (f r.2.1).1 = 1 ∨ (f r.2.1).1 = 0) := by
  have hlk : (r.2.2.any fun o => decide (hf o.2.1 ≠ 0)) = locked s.2.1 r.2.2 := by
    rw [Bool.eq_iff_iff, locked_iff, List.any_eq_true]
    constructor
    · rintro ⟨o, ho, e⟩
      obtain ⟨x, hx, hk⟩ := (h.keys o.2.1).1 (of_decide_eq_true e)
      exact ⟨x, hx, o, ho, hk⟩
    · rintro ⟨x, hx, o, ho, hk⟩
      exact ⟨o, ho, decide_eq_true ((h.keys o.2.1).2 ⟨x, hx, hk⟩)⟩
  unfold fitsP
  rw [hok, hlk, Bool.true_and]
  split
  · simp only [Bool.and_eq_true, Bool.not_eq_true', decide_eq_true_eq, h.zero]
  · split
    · simp
    · simp
/-- a record more: both keep to one another, or neither takes it -/
theorem rel_step (h : Rel pre s f hf) (r : Rc) : (∃ t, one s r = some t ∧ fitsP s.1 f hf r = true ∧ t.1 = nextP s.1 f r ∧ t.1.length ≤ 60 ∧ Rel (pre ++ [r]) t (updR f r.2.1 r) (nextH f hf r)) ∨ (one s r = none ∧ (fitsP s.1 f hf r = false ∨ (fitsP s.1 f hf r = true ∧ 60 < (nextP s.1 f r).length))) := by
  cases hok : recOk r
  · right
    refine ⟨?_, .inl ?_⟩
    · unfold one; rw [hok]; rfl
    · unfold fitsP; rw [hok]; rfl
  · have hfit := rel_fits h r hok
    obtain ⟨⟨ht1, ht2⟩, hcase⟩ := (recOk_iff r).1 hok
    by_cases hk1 : r.1 = 1
    · rw [if_pos hk1] at hfit
      by_cases hc : r.2.1 ∉ s.2.2 ∧ locked s.2.1 r.2.2 = false ∧ meets s.1 r.2.2 = true
      · left
        have hfz := h.new _ hc.1
        have hnh : nextH f hf r = putK hf r.2.2 r.2.1.toNat := by unfold nextH; rw [hfz]; rfl
        have hnm : nextP s.1 f r = s.1 := by unfold nextP; rw [if_neg (by omega)]
        refine ⟨(s.1, s.2.1 ++ [r], s.2.2 ++ [r.2.1]), ?_, hfit.2 hc, hnm.symm, h.few, ?_⟩
        · unfold one
          rw [if_pos hok, if_pos hk1, if_neg]
          simp [hc.1, hc.2.1, hc.2.2]
        · rw [hnh]
          have hne : ∀ x ∈ s.2.1, x.2.1 ≠ r.2.1 := fun x hx e => hc.1 (e ▸ h.tx_in hx)
          refine ⟨fun tx ht => ?_, fun tx ht => ?_, fun x hx => ?_, fun tx ht => ?_, fun tx ht => ?_, fun key => ?_, ?_, fun x hx => ?_, h.few, ?_⟩
          · simp at ht
            unfold updR; rw [if_neg ht.2]; exact h.new tx ht.1
          · unfold updR
            split
            · omega
            · next e => exact h.old tx (by simpa [e] using ht)
          · rcases List.mem_append.1 hx with e | e
            · unfold updR; rw [if_neg (hne x e)]; exact h.held x e
            · rw [List.mem_singleton.1 e]; unfold updR; rw [if_pos rfl]; exact ⟨rfl, hok, hk1⟩
          · unfold updR at ht ⊢
            split at ht
            · next e => rw [if_pos e]; exact ⟨List.mem_append.2 (.inr (by simp)), e.symm⟩
            · next e => rw [if_neg e]; exact ⟨List.mem_append.2 (.inl (h.back tx ht).1), (h.back tx ht).2⟩
          · unfold updR at ht ⊢
            split at ht
            · exact absurd hk1 ht
            · next e => rw [if_neg e]; exact h.bare tx ht
          · unfold putK
            constructor
            · intro e
              split at e
              · next e2 => exact ⟨r, List.mem_append.2 (.inr (by simp)), e2⟩
              · obtain ⟨x, hx, hk⟩ := (h.keys key).1 e
                exact ⟨x, List.mem_append.2 (.inl hx), hk⟩
            · rintro ⟨x, hx, hk⟩
              split
              · omega
              · next e2 =>
                rcases List.mem_append.1 hx with e | e
                · exact (h.keys key).2 ⟨x, e, hk⟩
                · rw [List.mem_singleton.1 e] at hk; exact absurd hk e2
          · have e1 := still_upd h r.2.1 r hc.1
            unfold stillHeld at e1 ⊢
            rw [List.filter_append, e1]
            have : decide ((updR f r.2.1 r r.2.1).1 = 1) = true := by unfold updR; rw [if_pos rfl]; simpa using hk1
            simp only [List.filter_cons, this, if_true, List.filter_nil]
            rw [h.still]; rfl
          · rcases List.mem_append.1 hx with e | e
            · exact List.mem_append.2 (.inl (h.met x e))
            · rw [List.mem_singleton.1 e]; simp
          · rw [List.pairwise_append]
            refine ⟨h.apart, by simp, fun x hx y hy => ?_⟩
            rw [List.mem_singleton.1 hy]
            refine ⟨hne x hx, fun key hk => ?_⟩
            rw [← Bool.not_eq_true]
            intro e
            obtain ⟨o, ho, e2⟩ := (hasKey_iff _ _).1 e
            have : locked s.2.1 r.2.2 = true := (locked_iff _ _).2 ⟨x, hx, o, ho, by rw [e2]; exact hk⟩
            rw [hc.2.1] at this
            cases this
      · right
        refine ⟨?_, .inl ?_⟩
        · unfold one
          rw [if_pos hok, if_pos hk1, if_pos]
          by_cases h1 : r.2.1 ∈ s.2.2
          · exact .inl (decide_eq_true h1)
          · right
            cases h2 : locked s.2.1 r.2.2
            · right
              cases h3 : meets s.1 r.2.2
              · rfl
              · exact absurd ⟨h1, h2, h3⟩ hc
            · exact .inl rfl
        · rw [← Bool.not_eq_true]; intro e; exact hc (hfit.1 e)
    · rw [if_neg hk1] at hfit
      have hops : r.2.2 = [] := by rcases hcase with ⟨h1, _⟩ | ⟨_, h1⟩; exact absurd h1 hk1; exact h1
      have hk23 : r.1 = 2 ∨ r.1 = 3 := by rcases hcase with ⟨h1, _⟩ | ⟨h1, _⟩; exact absurd h1 hk1; exact h1
      have hnh : nextH f hf r = delK hf (f r.2.1).2.2 := by unfold nextH; rw [hops]; rfl
      have hone : one s r = match placeTx r.2.1 s.2.1 with
          | none => if r.1 = 3 ∧ r.2.1 ∉ s.2.2 then some (s.1, s.2.1, s.2.2 ++ [r.2.1]) else none
          | some k => if (nextM s r k).length ≤ 60 then some (nextM s r k, s.2.1.take k ++ s.2.1.drop (k + 1), s.2.2) else none := by
        unfold one
        rw [if_pos hok, if_neg hk1]
        cases placeTx r.2.1 s.2.1 <;> rfl
      have hpw : s.2.1.Pairwise fun a b => a.2.1 ≠ b.2.1 := h.apart.imp fun x => x.1
      cases hpl : placeTx r.2.1 s.2.1 with
      | none =>
        have hnone := placeTx_none hpl
        rw [hpl] at hone
        simp only [] at hone
        have hf1 : (f r.2.1).1 ≠ 1 := fun e => hnone _ (h.back _ e).1 (h.back _ e).2
        by_cases hc : r.1 = 3 ∧ r.2.1 ∉ s.2.2
        · left
          rw [if_pos hc] at hone
          have hfz := h.new _ hc.2
          have hnh2 : nextH f hf r = hf := by rw [hnh, hfz]; rfl
          have hnm : nextP s.1 f r = s.1 := by unfold nextP; rw [if_neg (by omega)]
          refine ⟨_, hone, hfit.2 (by rw [if_neg (by omega)]; exact .inr (by rw [hfz])), hnm.symm, h.few, ?_⟩
          rw [hnh2]
          have hne : ∀ x ∈ s.2.1, x.2.1 ≠ r.2.1 := fun x hx => hnone x hx
          refine ⟨fun tx ht => ?_, fun tx ht => ?_, fun x hx => ?_, fun tx ht => ?_, fun tx ht => ?_, h.keys, ?_, fun x hx => ?_, h.few, h.apart⟩
          · simp at ht
            unfold updR; rw [if_neg ht.2]; exact h.new tx ht.1
          · unfold updR
            split
            · omega
            · next e => exact h.old tx (by simpa [e] using ht)
          · unfold updR; rw [if_neg (hne x hx)]; exact h.held x hx
          · unfold updR at ht ⊢
            split at ht
            · omega
            · next e => rw [if_neg e]; exact h.back tx ht
          · unfold updR at ht ⊢
            split at ht
            · next e => rw [if_pos e]; exact hops
            · next e => rw [if_neg e]; exact h.bare tx ht
          · have e1 := still_upd h r.2.1 r hc.2
            unfold stillHeld at e1 ⊢
            rw [List.filter_append, e1]
            have : decide ((updR f r.2.1 r r.2.1).1 = 1) = false := by unfold updR; rw [if_pos rfl]; simpa using hk1
            simp only [List.filter_cons, this, List.filter_nil, Bool.false_eq_true, if_false, List.append_nil]
            exact h.still
          · rcases List.mem_append.1 hx with e | e
            · exact List.mem_append.2 (.inl (h.met x e))
            · rw [List.mem_singleton.1 e]; simp
        · right
          rw [if_neg hc] at hone
          refine ⟨hone, .inl ?_⟩
          rw [← Bool.not_eq_true]
          intro e
          have e2 := hfit.1 e
          rcases hk23 with e3 | e3
          · rw [if_pos e3] at e2; exact hf1 e2
          · rw [if_neg (by omega)] at e2
            rcases e2 with e2 | e2
            · exact hf1 e2
            · exact hc ⟨e3, (h.zero _).1 e2⟩
      | some k =>
        rw [hpl] at hone
        simp only [] at hone
        obtain ⟨hkl, hkt⟩ := placeTx_some hpl
        have hmem : s.2.1[k] ∈ s.2.1 := List.getElem_mem hkl
        obtain ⟨h4, h5, h6⟩ := h.held _ hmem
        rw [hkt] at h4
        have hft : (f r.2.1).1 = 1 := by rw [h4]; exact h6
        have hnm : nextM s r k = nextP s.1 f r := by
          unfold nextM nextP opsAt
          rw [List.getElem?_eq_getElem hkl, h4]
        rw [hnm, cut_is hpw hpl] at hone
        have hfits : fitsP s.1 f hf r = true := hfit.2 (by
          rcases hk23 with e3 | e3
          · rw [if_pos e3]; exact hft
          · rw [if_neg (by omega)]; exact .inl hft)
        by_cases hlen : (nextP s.1 f r).length ≤ 60
        · left
          rw [if_pos hlen] at hone
          refine ⟨_, hone, hfits, rfl, hlen, ?_⟩
          rw [hnh]
          have hin : r.2.1 ∈ s.2.2 := by have := h.tx_in hmem; rwa [hkt] at this
          refine ⟨fun tx ht => ?_, fun tx ht => ?_, fun x hx => ?_, fun tx ht => ?_, fun tx ht => ?_, fun key => ?_, ?_, fun x hx => ?_, hlen, List.Pairwise.filter _ h.apart⟩
          · have e : tx ≠ r.2.1 := fun e => ht (e ▸ hin)
            unfold updR; rw [if_neg e]; exact h.new tx ht
          · unfold updR
            split
            · omega
            · exact h.old tx ht
          · obtain ⟨hx1, hx2⟩ := List.mem_filter.1 hx
            unfold updR; rw [if_neg (of_decide_eq_true hx2)]; exact h.held x hx1
          · unfold updR at ht ⊢
            split at ht
            · omega
            · next e =>
              rw [if_neg e]
              have hb := h.back tx ht
              exact ⟨List.mem_filter.2 ⟨hb.1, decide_eq_true (by rw [hb.2]; exact e)⟩, hb.2⟩
          · unfold updR at ht ⊢
            split at ht
            · next e => rw [if_pos e]; exact hops
            · next e => rw [if_neg e]; exact h.bare tx ht
          · rw [h4]
            have hfar : ∀ x ∈ s.2.1, x.2.1 ≠ r.2.1 → ∀ key, hasKey x.2.2 key = true → hasKey s.2.1[k].2.2 key = false := by
              intro x hx hne key hk
              obtain ⟨j, hj, rfl⟩ := List.getElem_of_mem hx
              rcases Nat.lt_trichotomy j k with e | e | e
              · exact (List.pairwise_iff_getElem.1 h.apart j k hj hkl e).2 key hk
              · subst e; exact absurd hkt hne
              · have := (List.pairwise_iff_getElem.1 h.apart k j hkl hj e).2 key
                cases e2 : hasKey s.2.1[k].2.2 key
                · rfl
                · rw [this e2] at hk; cases hk
            unfold delK
            constructor
            · intro e
              split at e
              · exact absurd rfl e
              · next e2 =>
                obtain ⟨x, hx, hk⟩ := (h.keys key).1 e
                refine ⟨x, List.mem_filter.2 ⟨hx, decide_eq_true fun e3 => ?_⟩, hk⟩
                have h7 := (h.held x hx).1
                rw [e3, h4] at h7
                rw [h7] at e2
                exact e2 hk
            · rintro ⟨x, hx, hk⟩
              obtain ⟨hx1, hx2⟩ := List.mem_filter.1 hx
              rw [if_neg (by rw [hfar x hx1 (of_decide_eq_true hx2) key hk]; decide)]
              exact (h.keys key).2 ⟨x, hx1, hk⟩
          · show s.2.1.filter _ = _
            rw [h.still]
            unfold stillHeld
            rw [List.filter_append, List.filter_filter]
            have : decide ((updR f r.2.1 r r.2.1).1 = 1) = false := by unfold updR; rw [if_pos rfl]; simpa using hk1
            simp only [List.filter_cons, this, List.filter_nil, Bool.false_eq_true, if_false, List.append_nil]
            refine List.filter_congr fun x hx => ?_
            unfold updR
            by_cases e : x.2.1 = r.2.1
            · rw [if_pos e]; simp [e, hk1]
            · rw [if_neg e]; simp [e]
          · rcases List.mem_append.1 hx with e | e
            · exact h.met x e
            · rw [List.mem_singleton.1 e]; exact hin
        · right
          rw [if_neg hlen] at hone
          exact ⟨hone, .inr ⟨hfits, by omega⟩⟩
end
end Go.Proofs.YtggdgceglmbaiaaGreatDoor.recs

namespace Go.Proofs.YtggdgceglmbaiaaGreatDoor.recs
open Go Go.RowKit Go.Proofs.YtggdgceglmbaiaaGreatDoor.base Go.Proofs.YtggdgceglmbaiaaGreatDoor.pairs Go.Proofs.YtggdgceglmbaiaaGreatDoor.ords
set_option linter.unusedVariables false
set_option linter.unusedSimpArgs false

def resM (r : Option St) : List Pr := match r with | none => [] | some s => s.1
def resH (r : Option St) : List Rc := match r with | none => [] | some s => s.2.1
/-- what ReplayRecs answers -/
def RepPost (w : World) (r : Option St) (e : Ending) (w' : World) : Prop :=
  ∃ (g np cp g2 c2 : Nat) (hs : List Value), e = .returned (.tuple #[.slice (some ⟨g, 0, none⟩) np cp, .slice (some ⟨g2, 0, none⟩) (resH r).length c2, .bool r.isSome]) ∧
    OwnP w' w.heap.size g np cp (resM r) ∧ OwnR w' w.heap.size (.slice (some ⟨g2, 0, none⟩) (resH r).length c2) (resH r) hs ∧ ¬ BlkR (.slice (some ⟨g2, 0, none⟩) (resH r).length c2) hs g ∧ Below w.heap.size w w'
/-- the orders of records lie at plain addresses -/
def PlainR (w : World) (a : Option Addr) (n : Nat) : Prop := ∀ b off, a = some ⟨b, off, none⟩ → ∀ i, i < n → ∀ pa pl pc, w.cell? ⟨b, off + i * 3 + 2, none⟩ = some (.slice pa pl pc) → Plain pa
theorem repPost_none {w w' : World} {r : Option St} (hr : r = none) (hb : Below w.heap.size w w') : RepPost w r (.returned (.tuple #[.slice (some ⟨w'.heap.size, 0, none⟩) 0 0, .slice (some ⟨w'.heap.size + 1, 0, none⟩) 0 0, .bool false])) ((w'.alloc (.cells #[] 61)).alloc (.cells #[] 36)) := by
  subst hr
  have hb1 : Below w'.heap.size w' (w'.alloc (.cells #[] 61)) := (Below.refl _ _).alloc (Nat.le_refl _) _
  have hB1 := hb.trans (hb1.mono hb.size)
  have hb2 := (Below.refl _ (w'.alloc (.cells #[] 61))).alloc (Nat.le_refl _) (.cells #[] 36)
  have hO := (ownP_made w' w.heap.size hb.size).below hb2
  have hR := ownR_made (w'.alloc (.cells #[] 61)) w.heap.size hB1.size
  rw [show (w'.alloc (.cells #[] 61)).heap.size = w'.heap.size + 1 by simp] at hR
  refine ⟨w'.heap.size, 0, 0, w'.heap.size + 1, 0, [], rfl, hO, hR, ?_, hB1.trans (hb2.mono hB1.size)⟩
  rintro (e | ⟨y, hy, _⟩)
  · simp [Value.ownBlock] at e
  · exact absurd hy List.not_mem_nil
theorem made_start (w : World) : Made w ((((w.alloc (.cells #[] 61)).alloc (.map #[] 0)).alloc (.map #[] 0)).alloc (.cells #[.slice (some ⟨w.heap.size, 0, none⟩) 0 0, .map (some (w.heap.size + 1)), .map (some (w.heap.size + 1 + 1))] 120))
    (w.heap.size + 1 + 1 + 1) (w.heap.size + 1) (w.heap.size + 1 + 1) 0 0 w.heap.size 0 0 (fun _ => (0, 0, [])) (fun _ => 0) [] := by
  obtain ⟨wa, hwa⟩ : ∃ wa, wa = w.alloc (.cells #[] 61) := ⟨_, rfl⟩
  have ba : Below w.heap.size w wa := by rw [hwa]; exact (Below.refl _ _).alloc (Nat.le_refl _) _
  have oa : OwnP wa w.heap.size w.heap.size 0 0 [] := by rw [hwa]; exact ownP_made w _ (Nat.le_refl _)
  have sa : wa.heap.size = w.heap.size + 1 := by rw [hwa]; simp
  rw [← hwa]
  clear hwa
  obtain ⟨wb, hwb⟩ : ∃ wb, wb = wa.alloc (.map #[] 0) := ⟨_, rfl⟩
  have bb : Below wa.heap.size wa wb := by rw [hwb]; exact (Below.refl _ _).alloc (Nat.le_refl _) _
  have lb : Lasts w wb wa.heap.size 0 (fun _ => (0, 0, [])) := by rw [hwb]; exact lasts_made w wa
  have sb : wb.heap.size = w.heap.size + 1 + 1 := by rw [hwb]; simp [sa]
  rw [← hwb]
  clear hwb
  obtain ⟨wc, hwc⟩ : ∃ wc, wc = wb.alloc (.map #[] 0) := ⟨_, rfl⟩
  have bc : Below wb.heap.size wb wc := by rw [hwc]; exact (Below.refl _ _).alloc (Nat.le_refl _) _
  have tc : Tally wc wb.heap.size 0 (fun _ => 0) := by rw [hwc]; exact tally_made wb
  have sc : wc.heap.size = w.heap.size + 1 + 1 + 1 := by rw [hwc]; simp [sb]
  rw [← hwc]
  clear hwc
  have bd := (Below.refl _ wc).alloc (Nat.le_refl _) (.cells #[.slice (some ⟨w.heap.size, 0, none⟩) 0 0, .map (some (w.heap.size + 1)), .map (some (w.heap.size + 1 + 1))] 120)
  have xd := heap_alloc_new wc (.cells #[.slice (some ⟨w.heap.size, 0, none⟩) 0 0, .map (some (w.heap.size + 1)), .map (some (w.heap.size + 1 + 1))] 120)
  rw [sa] at lb
  rw [sb] at tc
  rw [sc] at xd
  have B1 := ba.trans (bb.mono ba.size)
  have B2 := B1.trans (bc.mono B1.size)
  exact ⟨xd, (lb.below bc).below bd, tc.below bd, ((oa.below bb).below bc).below bd, B2.trans (bd.mono B2.size), by omega, by omega, by omega, by omega, by omega, by omega, by omega, by omega, by omega⟩
theorem Rel.eight {pre : List Rc} {s : St} {f : Int → Rc} {hf : ByteArray → Nat} (h : Rel pre s f hf) (tx : Int) : (f tx).2.2.length ≤ 8 ∧ ((f tx).1 = 1 → (f tx).2.2 ≠ []) := by
  by_cases e : (f tx).1 = 1
  · obtain ⟨h1, h2⟩ := h.back tx e
    obtain ⟨_, h3, h4⟩ := h.held _ h1
    obtain ⟨_, ⟨_, h5⟩ | ⟨h5, _⟩⟩ := (recOk_iff _).1 h3
    · obtain ⟨_, h6, h7⟩ := (opsOk_iff _).1 h5
      exact ⟨h7, fun _ e2 => by rw [e2] at h6; simp at h6⟩
    · omega
  · rw [h.bare tx e]; exact ⟨by simp, fun e2 => absurd e2 e⟩

set_option maxRecDepth 100000 in
set_option maxHeartbeats 4000000 in
theorem impl_replay (a : Option Addr) (len cap : Nat) (l : List Rc) (w : World) (h : SlR w a len l) (hpl : PlainR w a len) (hsz : len ≤ 1099511627776 / 16) (hops : ∀ r ∈ l, r.2.2.length ≤ 1099511627776 ∧ ∀ p ∈ r.2.2, p.2.1.size ≤ 1099511627776) :
    Calls Tryz.prog 51 #[.slice a len cap] w fun e w' => RepPost w (replay l) e w' := by
  obtain ⟨hl, hm, hsm, hc⟩ := id h
  subst hl
  unfold maxLen at hm
  have hmm := @run_makeMap Tryz.prog
  generalize hR : replay l = R
  have HR0 : Hid (R = replayGo ([], [], []) (l.drop 0)) := by show _ = _; rw [← hR]; rfl
  clear hR
  go_enter Tryz.func51, Tryz.ntmps51
  go_wp2_with (at_builtin; fail)
  clear hmm
  go_loopw [14] (fun i wr => ∃ (k g np cp n1 n2 : Nat) (f : Int → Rc) (hf : ByteArray → Nat) (s : St), k ≤ l.length ∧ i = .int .i64 (k : Int) ∧ Made w wr (w.heap.size + 1 + 1 + 1) (w.heap.size + 1) (w.heap.size + 1 + 1) n1 n2 g np cp f hf s.1 ∧ Rel (l.take k) s f hf ∧ n1 ≤ k ∧ n2 ≤ 8 * k ∧ Hid (R = replayGo s (l.drop k))) (fun i _ => l.length - (intOf i).toNat)
  case atStart => exact ⟨0, _, 0, 0, 0, 0, _, _, ([], [], []), Nat.zero_le _, rfl, made_start w, rel_start, Nat.le_refl _, Nat.le_refl _, HR0⟩
  case round =>
    clear HR0
    obtain ⟨k, g, np, cp, n1, n2, f, hf, s, hk, rfl, hM, hRel, hn1, hn2, HR⟩ := hrel
    have hnp := hM.own.1
    have hfew := hRel.few
    by_cases hlt : k < l.length
    · obtain ⟨b, off, ha, _⟩ := hc (by omega)
      subst ha
      have hat := h.at k hlt
      obtain ⟨c0', c1', pa, pl, pc, c2', hSo, _⟩ := hat
      have hpp : Plain pa := hpl b off rfl k hlt pa pl pc c2'
      have hbw := World.block_lt_of_cell? w _ c0'
      have c0 := (hM.bel.cell (p := ⟨b, off + k * 3, none⟩) hbw).trans c0'
      have c1 := (hM.bel.cell (p := ⟨b, off + k * 3 + 1, none⟩) hbw).trans c1'
      have c2 := (hM.bel.cell (p := ⟨b, off + k * 3 + 2, none⟩) hbw).trans c2'
      have hki : (k : Int) < (l.length : Int) := by omega
      obtain ⟨hol, hks⟩ := hops _ (List.getElem_mem hlt)
      have hst := rel_step hRel l[k]
      have HD : Hid (R = match one s l[k] with | none => none | some t => replayGo t (l.drop (k + 1))) := by
        show _ = _
        rw [HR.out, List.drop_eq_getElem_cons hlt]; rfl
      have HTK : Hid (l.take (k + 1) = l.take k ++ [l[k]]) := List.take_succ_eq_append_getElem hlt
      have hr8 := hRel.eight l[k].2.1
      generalize l[k] = r at *
      clear c0' c1' c2' hbw HR
      obtain ⟨V, hV⟩ : ∃ V, V = wr.alloc (.cells #[.int .i64 r.1, .int .i64 r.2.1, .slice pa pl pc] 36) := ⟨_, rfl⟩
      have hbV : Below wr.heap.size wr V := by rw [hV]; exact (Below.refl _ _).alloc (Nat.le_refl _) _
      have hbx : BoxR wr.heap.size r.1 r.2.1 (.slice pa pl pc) V := by rw [hV]; exact boxR_new _ _ _ _
      have hMV := hM.below hbV
      have HF := Hid.mk' (i_fits (w.heap.size + 1 + 1 + 1) (w.heap.size + 1) (w.heap.size + 1 + 1) n1 n2 g np cp f hf s.1 r.1 r.2.1 pa pl pc r.2.2 w V hMV.box hMV.lasts hMV.tally hMV.own.sl (by omega) (hSo.below hMV.bel) hks)
      have HV := Hid.mk' hV.symm
      clear hV hM hbV
      have HTAKE : Hid (∀ wx, fitsP s.1 f hf r = true → Below V.heap.size V wx → Calls Tryz.prog 71 #[.pointer (some ⟨w.heap.size + 1 + 1 + 1, 0, none⟩), .agg #[.int .i64 r.1, .int .i64 r.2.1, .slice pa pl pc]] wx fun e w' => ∃ g' np' cp', e = .returned (.tuple #[]) ∧ Made w w' (w.heap.size + 1 + 1 + 1) (w.heap.size + 1) (w.heap.size + 1 + 1) (n1 + 1) (n2 + pl) g' np' cp' (updR f r.2.1 r) (nextH f hf r) (nextP s.1 f r)) := fun wx hfit hx => by
        have hok : recOk r = true := by
          unfold fitsP at hfit
          rw [Bool.and_eq_true] at hfit
          exact hfit.1
        obtain ⟨⟨ht1, ht2⟩, hcase⟩ := (recOk_iff r).1 hok
        have hp8 : r.2.2.length ≤ 8 := by
          rcases hcase with ⟨_, h1⟩ | ⟨_, h1⟩
          · exact ((opsOk_iff _).1 h1).2.2
          · rw [h1]; simp
        have hpe := hSo.1
        exact i_take (w.heap.size + 1 + 1 + 1) (w.heap.size + 1) (w.heap.size + 1 + 1) n1 n2 g np cp f hf s.1 r.1 r.2.1 pa pl pc r.2.2 w wx (hMV.below hx) hSo hpp ht1 ht2 (by omega) (by omega) (by omega) (by omega) hr8.1 (fun e2 => hr8.2 (by
          have := (rel_fits hRel r hok).1 hfit
          rw [if_neg (by omega), if_pos e2] at this
          exact this))
      have hpl8 : Hid (fitsP s.1 f hf r = true → pl ≤ 8) := fun hfit => by
        have hok : recOk r = true := by
          unfold fitsP at hfit
          rw [Bool.and_eq_true] at hfit
          exact hfit.1
        have hpe := hSo.1
        obtain ⟨_, ⟨_, h1⟩ | ⟨_, h1⟩⟩ := (recOk_iff r).1 hok
        · have := ((opsOk_iff _).1 h1).2.2; omega
        · rw [h1] at hpe; simp at hpe; omega
      rcases hst with ⟨t, ho, hfit, ht1, htl, hRel'⟩ | ⟨ho, hno⟩
      · have hfit2 : fitsP s.1 f hf (r.1, r.2.1, r.2.2) = true := hfit
        rw [hfit2] at HF
        have hp8 := hpl8.out hfit
        have HRN : Hid (R = replayGo t (l.drop (k + 1))) := by show _ = _; rw [HD.out, ho]
        rw [← HTK.out] at hRel'
        clear HD ho HTK
        go_wp2_with (at_builtin; fail)
        rw [HV.out]
        refine HF.out.mono ?_
        rintro e w2 ⟨rfl, hb2⟩
        obtain ⟨d0, d1, d2⟩ := (hbx.below hb2).cells
        have HTK2 := Hid.mk' (HTAKE.out w2 hfit hb2)
        clear HF HV c0 c1 c2 HTAKE
        go_wp2_with (at_builtin; fail)
        refine HTK2.out.mono ?_
        rintro e w4 ⟨g4, np4, cp4, rfl, hM4⟩
        have hn4 := hM4.own.1
        rw [← ht1] at hM4 hn4
        obtain ⟨x0, x1, x2⟩ := hM4.box.cells
        have hle : ¬ (60 : Int) < (np4 : Int) := by omega
        clear HTK2 d0 d1 d2
        go_wp2_with (at_builtin; fail)
        go_roundw
        case rel => exact ⟨k + 1, g4, np4, cp4, n1 + 1, n2 + pl, _, _, t, by omega, by go_num, hM4, hRel', by omega, by omega, HRN⟩
        case measure => simp [intOf]; omega
      · have HRN : Hid (R = none) := by show _ = _; rw [HD.out, ho]
        rcases hno with hfit | ⟨hfit, hbig⟩
        · have hfit2 : fitsP s.1 f hf (r.1, r.2.1, r.2.2) = false := hfit
          rw [hfit2] at HF
          clear HD ho HTK HTAKE
          go_wp2_with (at_builtin; fail)
          rw [HV.out]
          refine HF.out.mono ?_
          rintro e w2 ⟨rfl, hb2⟩
          have hB2 := hMV.bel.trans (hb2.mono hMV.bel.size)
          have HP := Hid.mk' (repPost_none HRN.out hB2)
          clear HF HV c0 c1 c2
          go_wp2_with (at_builtin; fail)
          go_ret3
          exact HP.out
        · have hfit2 : fitsP s.1 f hf (r.1, r.2.1, r.2.2) = true := hfit
          rw [hfit2] at HF
          clear HD ho HTK
          go_wp2_with (at_builtin; fail)
          rw [HV.out]
          refine HF.out.mono ?_
          rintro e w2 ⟨rfl, hb2⟩
          obtain ⟨d0, d1, d2⟩ := (hbx.below hb2).cells
          have HTK2 := Hid.mk' (HTAKE.out w2 hfit hb2)
          clear HF HV c0 c1 c2 HTAKE
          go_wp2_with (at_builtin; fail)
          refine HTK2.out.mono ?_
          rintro e w4 ⟨g4, np4, cp4, rfl, hM4⟩
          have hn4 := hM4.own.1
          obtain ⟨x0, x1, x2⟩ := hM4.box.cells
          have hle : (60 : Int) < (np4 : Int) := by omega
          have hcm := hM4.own.cases
          have HP := Hid.mk' (repPost_none HRN.out hM4.bel)
          clear HTK2 d0 d1 d2
          go_wp2_with (at_builtin; fail)
          go_ret3
          exact HP.out
    · have HE : Hid (l.take k = l) := List.take_of_length_le (by omega)
      rw [HE.out] at hRel
      have HRN : Hid (R = some s) := by
        show _ = _
        rw [HR.out, List.drop_eq_nil_of_le (by omega)]; rfl
      have hex : ¬ (k : Int) < (l.length : Int) := by omega
      have hSR := h.below hM.bel
      have hstl := hRel.still
      have HHO : Hid (∀ wx, Below wr.heap.size wr wx → Calls Tryz.prog 72 #[.pointer (some ⟨w.heap.size + 1 + 1 + 1, 0, none⟩), .slice a l.length cap] wx fun e w' => ∃ g2 c2 hs, e = .returned (.slice (some ⟨g2, 0, none⟩) s.2.1.length c2) ∧ OwnR w' wx.heap.size (.slice (some ⟨g2, 0, none⟩) s.2.1.length c2) s.2.1 hs ∧ Below wx.heap.size wx w') := fun wx hx => by
        have := i_heldOf (w.heap.size + 1 + 1 + 1) (w.heap.size + 1) (w.heap.size + 1 + 1) n1 _ f a l.length cap l w wx (hM.below hx).box (hM.below hx).lasts (hSR.below hx) (by omega) (fun r hr => (hops r hr).1)
        rw [← hstl] at this
        exact this
      clear hstl
      obtain ⟨x0, x1, x2⟩ := hM.box.cells
      have hdr : Below wr.heap.size wr wr.drew := (Below.refl _ _).drew
      go_wp2_with (at_builtin; fail)
      go_region_with (go_at_call 72; refine (HHO.out _ hdr).mono ?_; rintro e w5 ⟨g2, c2, hs2, rfl, hO5, hb5⟩; have hb5 := hdr.trans (hb5.mono hdr.size); obtain ⟨y0, y1, y2⟩ := (hM.below hb5).box.cells)
      all_goals
        have hM5 := hM.below hb5
        have hg := hM.own.lt
        have HP : Hid (RepPost w R (.returned (.tuple #[.slice (some ⟨g, 0, none⟩) np cp, .slice (some ⟨g2, 0, none⟩) s.2.1.length c2, .bool true])) w5) := by
          show RepPost _ _ _ _
          rw [HRN.out]
          have hOw : OwnR w5 wr.heap.size (.slice (some ⟨g2, 0, none⟩) s.2.1.length c2) s.2.1 hs2 := hO5
          refine ⟨g, np, cp, g2, c2, hs2, rfl, hM5.own, hOw.mono hM.bel.size, fun hb => ?_, hM5.bel⟩
          have := (hOw.lt g hb).1
          omega
        clear hO5 HHO
        go_wp2_with (at_builtin; fail)
        refine bodyPost_ret (v := .tuple #[.slice (some ⟨g, 0, none⟩) np cp, .slice (some ⟨g2, 0, none⟩) s.2.1.length c2, .bool true]) ?_ rfl HP.out
        simp [results, Tryz.results51, go_sem]
end Go.Proofs.YtggdgceglmbaiaaGreatDoor.recs

namespace Go.Proofs.YtggdgceglmbaiaaGreatDoor.ords
open Go Go.RowKit Go.Proofs.YtggdgceglmbaiaaGreatDoor.base Go.Proofs.YtggdgceglmbaiaaGreatDoor.pairs
set_option linter.unusedVariables false
set_option linter.unusedSimpArgs false

theorem infoZ : (Tryz.prog.info? 3).map (fun i => (i.zero, i.size, i.bytes)) = some (some (.int .i64 0), 1, 8) := by kernel_rfl
def intVals (zs : List Int) : List Value := zs.map fun z => .int .i64 z
theorem intVals_length (zs : List Int) : (intVals zs).length = zs.length := by simp [intVals]
theorem intVals_append (a b : List Int) : intVals (a ++ b) = intVals a ++ intVals b := by simp [intVals]
theorem intVals_set (zs : List Int) (k : Nat) (z : Int) : (intVals zs).set k (.int .i64 z) = intVals (zs.set k z) := by simp [intVals]
theorem intVals_oneCell (zs : List Int) : ∀ v ∈ intVals zs, v.oneCell' = true := by
  intro v hv; obtain ⟨_, _, rfl⟩ := List.mem_map.1 hv; rfl
def CellsZ (w : World) (b off : Nat) (zs : List Int) : Prop := ∀ i (h : i < zs.length), w.cell? ⟨b, off + i, none⟩ = some (.int .i64 zs[i])
def SlZ (w : World) (a : Option Addr) (len : Nat) (zs : List Int) : Prop :=
  zs.length = len ∧ len ≤ maxLen ∧ (0 < len → ∃ b off, a = some ⟨b, off, none⟩ ∧ CellsZ w b off zs)
def OwnZ (w : World) (base g n cap : Nat) (zs : List Int) : Prop := zs.length = n ∧ w.ownsRow base 3 1 (.slice (some ⟨g, 0, none⟩) n cap) n (intVals zs)
section
variable {w w' : World} {a : Option Addr} {b off len base base' g n cap : Nat} {zs : List Int} {row : Option Nat}
theorem SlZ.cells (h : SlZ w (some ⟨b, off, none⟩) len zs) : CellsZ w b off zs := by
  intro i hi
  obtain ⟨b', off', e, hc⟩ := h.2.2 (by have := h.1; omega)
  simp only [Option.some.injEq, Addr.mk.injEq, and_true] at e
  obtain ⟨rfl, rfl⟩ := e
  exact hc i hi
theorem SlZ.below (h : SlZ w a len zs) (hb : Below w.heap.size w w') : SlZ w' a len zs := by
  obtain ⟨h1, h2, h3⟩ := h
  refine ⟨h1, h2, fun h0 => ?_⟩
  obtain ⟨b, off, rfl, hc⟩ := h3 h0
  exact ⟨b, off, rfl, fun i hi => (hb.cell (p := ⟨b, off + i, none⟩) (World.block_lt_of_cell? w _ (hc i hi))).trans (hc i hi)⟩
theorem OwnZ.lt (h : OwnZ w base g n cap zs) : base ≤ g ∧ g < w.heap.size := h.2.lt g rfl
theorem OwnZ.cases (h : OwnZ w base g n cap zs) : n ≤ cap ∧ cap ≤ maxLen := by
  rcases h.2.2 with ⟨h', _⟩ | ⟨g', cap', cur, h', _, hg, h1, h2, _⟩
  · simp at h'
  · simp only [Value.slice.injEq, Option.some.injEq, Addr.mk.injEq, and_true, true_and] at h'
    obtain ⟨rfl, rfl⟩ := h'
    exact ⟨h1, h2⟩
theorem OwnZ.mono (h : OwnZ w base g n cap zs) (hb : base' ≤ base) : OwnZ w base' g n cap zs := by
  refine ⟨h.1, h.2.1, ?_⟩
  rcases h.2.2 with h' | ⟨g', cap', cur, h', h0, r⟩
  · exact .inl h'
  · exact .inr ⟨g', cap', cur, h', by omega, r⟩
theorem OwnZ.at (h : OwnZ w base g n cap zs) (i : Nat) (hi : i < zs.length) : w.cell? ⟨g, i, none⟩ = some (.int .i64 zs[i]) := by
  have hl := h.1
  rw [h.2.cellAt i (by omega)]
  simp [intVals, hi]
theorem OwnZ.frozen (h : OwnZ w base g n cap zs) (i : Nat) : w.frozen? ⟨g, i, none⟩ = false := h.2.frozenAt i
theorem OwnZ.sl (h : OwnZ w base g n cap zs) : SlZ w (some ⟨g, 0, none⟩) n zs :=
  ⟨h.1, by have := h.cases; omega, fun _ => ⟨g, 0, rfl, fun i hi => by rw [Nat.zero_add]; exact h.at i hi⟩⟩
theorem OwnZ.grown (h : OwnZ w base g n cap zs) (hg : w.grownBy w' row) (hne : some g ≠ row) : OwnZ w' base g n cap zs := ⟨h.1, h.2.kept hg (.inr hne)⟩
theorem OwnZ.below (h : OwnZ w base g n cap zs) (hb : Below w.heap.size w w') : OwnZ w' base g n cap zs :=
  ⟨h.1, h.2.kept (row := none) ⟨hb.os, hb.tape, hb.output, hb.size, fun k hk _ => hb.block k hk⟩ (.inr (by simp [Value.ownBlock]))⟩
theorem cells_ints (h : CellsZ w b off zs) : ∀ j v, (intVals zs)[j]? = some v → w.cell? ((⟨b, off, none⟩ : Addr).add j) = some v := by
  intro j v hj
  have hjl : j < zs.length := by have := (List.getElem?_eq_some_iff.1 hj).1; rwa [intVals_length] at this
  rw [Addr.add_lit, h j hjl]
  simpa [intVals, hjl] using hj
theorem ownZ_made (w : World) (base : Nat) (hb : base ≤ w.heap.size) : OwnZ (w.alloc (.cells #[] 3)) base w.heap.size 0 0 [] :=
  ⟨rfl, World.ownsRow_made w #[] 0 hb (Nat.zero_le _) rfl⟩
theorem ownZ_val {v' : Value} (hl : zs.length = n) (h0 : ¬ v' = .slice none 0 0) (h : w'.ownsRow base 3 1 v' n (intVals zs)) :
    ∃ g' cap', v' = .slice (some ⟨g', 0, none⟩) n cap' ∧ OwnZ w' base g' n cap' zs := by
  rcases h.2 with ⟨h2, _⟩ | ⟨g', cap', cur, hv, _⟩
  · exact absurd h2 h0
  · subst hv
    exact ⟨g', cap', rfl, hl, h⟩
theorem ownZ_app {v' : Value} {z : Int} (hl : zs.length = n) (h0 : ¬ v' = .slice none 0 0) (h : w'.ownsRow base 3 1 v' (n + 1) (intVals zs ++ intVals [z])) :
    ∃ g' cap', v' = .slice (some ⟨g', 0, none⟩) (n + 1) cap' ∧ OwnZ w' base g' (n + 1) cap' (zs ++ [z]) := by
  rw [← intVals_append] at h
  exact ownZ_val (by simp; omega) h0 h
theorem ownZ_set (h : OwnZ w base g n cap zs) (k : Nat) (z : Int) :
    OwnZ (w.setCell ⟨g, k, none⟩ (.int .i64 z)) base g n cap (zs.set k z) ∧ w.grownBy (w.setCell ⟨g, k, none⟩ (.int .i64 z)) (some g) := by
  have hs := h.2.stored k (.int .i64 z)
  rw [intVals_set] at hs
  exact ⟨⟨by simpa using h.1, hs.1⟩, hs.2⟩
end
theorem one_int_cells (w : World) (z : Int) (t : TypeId) : ∀ j u, (intVals [z])[j]? = some u → (w.alloc (.cells #[.int .i64 z] t)).cell? ((⟨w.heap.size, 0, none⟩ : Addr).add j) = some u := by
  intro j u hj
  match j, hj with
  | 0, hj => simp [intVals] at hj; subst hj; simp [Addr.add]

/-! ### a number put in order -/
theorem putI_at (zs : List Int) (n : Int) (k : Nat) (ha : Asc zs) (hn : n ∉ zs) (hk : k ≤ zs.length) (hd : ∀ x ∈ zs.drop k, n < x) (ht : k = 0 ∨ ∃ h : k - 1 < zs.length, ¬ n < zs[k - 1]) : putI zs n = zs.take k ++ n :: zs.drop k := by
  have htk : ∀ x ∈ zs.take k, x < n := by
    intro x hx
    rcases ht with rfl | ⟨h1, h2⟩
    · simp at hx
    · obtain ⟨i, hi, rfl⟩ := List.getElem_of_mem hx
      have hik : i < k := by simp at hi; omega
      rw [List.getElem_take]
      have hne : zs[k - 1] ≠ n := fun e => hn (e ▸ List.getElem_mem h1)
      by_cases e : i = k - 1
      · subst e; omega
      · have := List.pairwise_iff_getElem.1 ha i (k - 1) (by omega) h1 (by omega)
        omega
  unfold putI
  rw [if_neg hn]
  have e := List.take_append_drop k zs
  have e1 : zs.filter (fun x => decide (x < n)) = zs.take k := by
    conv => lhs; rw [← e, List.filter_append]
    rw [List.filter_eq_self.2 (fun x hx => by simpa using htk x hx), List.filter_eq_nil_iff.2 (fun x hx => by have := hd x hx; simp; omega), List.append_nil]
  have e2 : zs.filter (fun x => decide (n < x)) = zs.drop k := by
    conv => lhs; rw [← e, List.filter_append]
    rw [List.filter_eq_nil_iff.2 (fun x hx => by have := htk x hx; simp; omega), List.filter_eq_self.2 (fun x hx => by simpa using hd x hx), List.nil_append]
  rw [e1, e2]
/-- the row with a place free at k -/
def gap (zs : List Int) (k : Nat) (x : Int) : List Int := zs.take k ++ x :: zs.drop k
theorem gap_length (zs : List Int) (k : Nat) (x : Int) (h : k ≤ zs.length) : (gap zs k x).length = zs.length + 1 := by unfold gap; simp; omega
theorem gap_set (zs : List Int) (k : Nat) (x y : Int) (h : k ≤ zs.length) : (gap zs k x).set k y = gap zs k y := by
  unfold gap
  rw [List.set_append_right _ _ (by simp; omega), List.length_take_of_le h, Nat.sub_self, List.set_cons_zero]
theorem gap_prev (zs : List Int) (k : Nat) (x : Int) (h0 : 0 < k) (h : k ≤ zs.length) : (gap zs k x)[k - 1]? = some (zs[k - 1]'(by omega)) := by
  unfold gap
  rw [List.getElem?_append_left (by simp; omega), List.getElem?_take_of_lt (by omega), List.getElem?_eq_getElem (by omega)]
theorem gap_down (zs : List Int) (k : Nat) (h0 : 0 < k) (h : k ≤ zs.length) : gap zs k (zs[k - 1]'(by omega)) = gap zs (k - 1) (zs[k - 1]'(by omega)) := by
  unfold gap
  obtain ⟨j, rfl⟩ : ∃ j, k = j + 1 := ⟨k - 1, by omega⟩
  simp only [Nat.add_sub_cancel]
  rw [List.take_succ_eq_append_getElem (by omega), List.drop_eq_getElem_cons (i := j) (by omega), List.append_assoc]
  rfl
end Go.Proofs.YtggdgceglmbaiaaGreatDoor.ords
