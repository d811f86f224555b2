/- RecW RecX -/
import Derived.Test.YtijplooogplccaaGreatSham
import Derived.Laws.CopyOwn
import Derived.Laws.CopyRow
set_option linter.unusedVariables false
set_option linter.unusedSimpArgs false
namespace Go.Proofs.YtijplooogplccaaGreat
namespace recs
open Go Go.RowKit base pairs ords
theorem boxR_setW {X : Nat} {k t : Int} {v : Value} {w : World} (h : BoxR X k t v w) (a b c : Value) :
 ((((w.setCell ⟨X, 0, none⟩ a).setCell ⟨X, 1, none⟩ b).setCell ⟨X, 2, none⟩ c).heap[X]? = some (.cells #[a, b, c] 133 (0, 0))) ∧ w.grownBy (((w.setCell ⟨X, 0, none⟩ a).setCell ⟨X, 1, none⟩ b).setCell ⟨X, 2, none⟩ c) (some X) := by
 have h0 : w.heap[X]? = some (.cells #[.int .i64 k, .int .i64 t, v] 133 (0, 0)) := h
 have s0 := set_cur h0 0 a
 have s1 := set_cur s0.1 1 b
 have s2 := set_cur s1.1 2 c
 exact ⟨s2.1, grownBy_trans (grownBy_trans s0.2 s1.2) s2.2⟩
theorem BoxR.fz {X : Nat} {k t : Int} {v : Value} {w : World} (h : BoxR X k t v w) (j : Nat) : w.frozen? ⟨X, j, none⟩ = false := by unfold BoxR at h; simp [World.frozen?, h]
theorem run_copy_ord (w : World) (g L dCap : Nat) (a : Option Addr) (sCap : Nat) (cur : Array Value) (l : List Od) (hl : l.length = L) (ty : TypeId)
 (hg : w.heap[g]? = some (.cells cur 126 (0, 0))) (hc : cur.size = L * 3) (hsrc : SlO w a L l) :
 (Builtin.copy_ #[98, 98] ty #[.slice (some ⟨g, 0, none⟩) L dCap, .slice a L sCap]).run Tryz.prog w = .ok (goInt L) (w.setRow g (ordVals l).toArray) := by
 obtain ⟨i0, hi, hz0, hz1, hz2⟩ := info_parts infoO
 by_cases h0 : L = 0
 · subst h0
   have e1 : l = [] := List.eq_nil_of_length_eq_zero hl
   subst e1
   have e2 : cur = #[] := Array.eq_empty_of_size_eq_zero (by omega)
   subst e2
   have hs0 : w.setRow g (ordVals []).toArray = w := setRow_self w g #[] _ (0, 0) hg
   rw [hs0]
   cases a with
   | none => simp [Builtin.copy_, run_underlying Tryz.underlying98, Builtin.lenOf, Builtin.firstCells, sizeOf, typeInfo, hi, hz1, storeCells]
   | some ad => simp [Builtin.copy_, run_underlying Tryz.underlying98, Builtin.lenOf, Builtin.firstCells, sizeOf, typeInfo, hi, hz1, storeCells, loadCells, loadCellsFrom]
 · obtain ⟨b, off, ha, _⟩ := hsrc.2.2.2 (by omega)
   subst ha
   have hcs := cells_ords hsrc.cells
   have hld := run_loadCells_list (P := Tryz.prog) w ⟨b, off, none⟩ (ordVals l) hcs
   have hst := run_storeCells_at Tryz.prog g 0 126 (ordVals l) 0 cur w hg (by rw [ordVals_length]; omega) (ordVals_oneCell l)
   have hdr : cur.toList.drop (ordVals l).length = [] := List.drop_eq_nil_of_le (by rw [ordVals_length]; simp; omega)
   simp only [Nat.zero_add, List.take_zero, List.nil_append, hdr, List.append_nil] at hst
   rw [ordVals_length, hl] at hld
   simp [Builtin.copy_, run_underlying Tryz.underlying98, Builtin.lenOf, Builtin.firstCells, sizeOf, typeInfo, hi, hz1, hld, hst]
theorem wpList_copy_ord {w : World} {ops : Array Oper} {rest : List Oper} {o : Oper} {a : Act} {Q : Exit → Act → World → Prop} (hgd : o.guard = none) (d s : Operand)
 (ho : o.op = .call { callee := .builtin .copy, args := #[d, s], argTypes := #[98, 98] })
 (g L dCap : Nat) (ad : Option Addr) (sCap : Nat) (cur : Array Value) (l : List Od) (hl : l.length = L) (hd : a.eval d = .slice (some ⟨g, 0, none⟩) L dCap) (hs : a.eval s = .slice ad L sCap)
 (hg : w.heap[g]? = some (.cells cur 126 (0, 0))) (hc : cur.size = L * 3) (hsrc : SlO w ad L l)
 (h : ∀ w', w'.heap[g]? = some (.cells (ordVals l).toArray 126 (0, 0)) → w.grownBy w' (some g) → wpList Tryz.prog ops Q rest (a.put o.dst (goInt L)) w') : wpList Tryz.prog ops Q (o :: rest) a w := by
 refine wpList_plain hgd fun K hK => ?_
 have hrun := run_copy_ord w g L dCap ad sCap cur l hl o.type hg hc hsrc
 unfold Oper.wp
 simp [execOp, ho, resolve, invoke, builtin, hd, hs, hrun, Result.andThen]
 exact hK _ _ (h _ (setRow_heap w g cur _ _ (0, 0) hg) ⟨rfl, rfl, rfl, by simp [World.setRow], fun k hk hne => setRow_other w g k _ (by intro e; exact hne (by rw [e]))⟩)
theorem ownO_of_row {w : World} {base g n : Nat} {l : List Od} (hn : l.length = n) (hsm : ∀ p ∈ l, smallO p) (hm : n ≤ maxLen) (hb : base ≤ g) (h : w.heap[g]? = some (.cells (ordVals l).toArray 126 (0, 0))) : OwnO w base g n n l :=
 ⟨hn, hsm, by rw [ordVals_length]; omega, .inr ⟨g, n, _, rfl, hb, h, Nat.le_refl _, hm, by simp [ordVals_length, hn], by rw [List.take_of_length_le (by simp [ordVals_length]; omega)]⟩⟩
set_option maxRecDepth 100000 in
set_option maxHeartbeats 2000000 in
theorem i_ownRec (kind tx : Int) (a : Option Addr) (len cap : Nat) (l : List Od) (w : World) (h : SlO w a len l) (hsz : len ≤ 1099511627776) :
 Calls Tryz.prog 165 #[.agg #[.int .i64 kind, .int .i64 tx, .slice a len cap]] w fun e w' =>
  ∃ g, e = .returned (.agg #[.int .i64 kind, .int .i64 tx, .slice (some ⟨g, 0, none⟩) len len]) ∧ OwnO w' w.heap.size g len len l ∧ Below w.heap.size w w' := by
 obtain ⟨i0, hi, hz0, hz1, hz2⟩ := info_parts infoO
 obtain ⟨W, hW⟩ : ∃ W, W = (w.alloc (.cells #[.int .i64 kind, .int .i64 tx, .slice a len cap] 133)).alloc (.cells #[.int .i64 0, .int .i64 0, .slice none 0 0] 133) := ⟨_, rfl⟩
 have hba : Below w.heap.size w (w.alloc (.cells #[.int .i64 kind, .int .i64 tx, .slice a len cap] 133)) := (Below.refl _ _).alloc (Nat.le_refl _) _
 have hB : Below w.heap.size w W := by rw [hW]; exact hba.alloc hba.size _
 have hT : BoxR w.heap.size kind tx (.slice a len cap) W := by rw [hW]; exact (boxR_new w _ _ _).below ((Below.refl _ _).alloc (Nat.le_refl _) _)
 have hR : BoxR (w.heap.size + 1) 0 0 (.slice none 0 0) W := by
  rw [hW]
  have := boxR_new (w.alloc (.cells #[.int .i64 kind, .int .i64 tx, .slice a len cap] 133)) 0 0 (.slice none 0 0)
  rwa [show (w.alloc (.cells #[.int .i64 kind, .int .i64 tx, .slice a len cap] 133)).heap.size = w.heap.size + 1 by simp] at this
 have HW := Hid.mk' hW.symm
 have hl := h.1
 have hsm := h.2.2.1
 have hlm := h.2.1
 have hll : (len : Int) ≤ 1099511627776 := by omega
 have hWz : W.heap.size = w.heap.size + 1 + 1 := by rw [hW]; simp
 have hBz : w.heap.size ≤ ((w.alloc (.cells #[.int .i64 kind, .int .i64 tx, .slice a len cap] 133)).alloc (.cells #[.int .i64 0, .int .i64 0, .slice none 0 0] 133)).heap.size := by rw [← hW]; exact hB.size
 obtain ⟨d0, d1, d2⟩ := hT.cells
 rw [hW] at d0 d1 d2
 have HWZ := Hid.mk' hWz
 clear hW hWz
 go_enter Tryz.func165, Tryz.ntmps165
 go_wp2_with (at_make; refine wpList_make_full _ rfl _ _ 98 rfl w.heap.size 126 i0 (.agg #[.int .i64 0, .string ⟨#[]⟩, .string ⟨#[]⟩]) 3 Tryz.underlying98 hi hz0 hz1 _ _ _ _ len rfl rfl rfl rfl ?b2 ?b3 ?b4 ?_)
 case b2 => rw [hz2]; omega
 case b3 => exact hlm
 case b4 => exact hBz
 intro w2 hown2 hgrow2
 rw [HW.out] at hgrow2
 have hb2 : Below W.heap.size W w2 := (Below.refl _ _).grown hgrow2 (Nat.le_refl _) (fun k e => by cases e)
 have hT2 := hT.below hb2
 have hR2 := hR.below hb2
 have hB2 := hB.trans (hb2.mono hB.size)
 obtain ⟨cur, hgc, hcs⟩ : ∃ cur : Array Value, w2.heap[w.heap.size + 1 + 1]? = some (.cells cur 126 (0, 0)) ∧ cur.size = len * 3 := by
  rcases hown2.2 with ⟨h', _⟩ | ⟨g', cap', cur, h', _, hg, _, _, hs, _⟩
  · simp at h'
  · simp at h'
    obtain ⟨rfl, rfl⟩ := h'
    exact ⟨cur, hg, hs⟩
 have hS2 := h.below hB2
 clear d0 d1 d2 hown2 hgrow2 hBz
 obtain ⟨d0, d1, d2⟩ := hT2.cells
 go_wp2_with (refine wpList_copy_ord rfl (.tmp 8) (.tmp 10) rfl (w.heap.size + 1 + 1) len _ _ _ cur l hl rfl rfl hgc hcs hS2 ?_)
 intro w3 hrow3 hg3
 have hT3 := hT2.grown hg3 (by simp; omega)
 have hR3 := hR2.grown hg3 (by simp)
 have hB3 := hB2.grown hg3 hB2.size (fun k e => by cases e; omega)
 have hO3 : OwnO w3 w.heap.size (w.heap.size + 1 + 1) len len l := ownO_of_row hl hsm hlm (by omega) hrow3
 clear d0 d1 d2
 obtain ⟨d0, d1, d2⟩ := hT3.cells
 obtain ⟨r0, r1, r2⟩ := hR3.cells
 have f0 := hR3.fz 0
 have f1 := hR3.fz 1
 have f2 := hR3.fz 2
 obtain ⟨z, zg⟩ := boxR_setW hR3 (.int .i64 kind) (.int .i64 tx) (.slice (some ⟨w.heap.size + 1 + 1, 0, none⟩) len len)
 have hz : BoxR (w.heap.size + 1) kind tx (.slice (some ⟨w.heap.size + 1 + 1, 0, none⟩) len len) _ := z
 have hzc := hz.cells
 have HBz := Hid.mk' (hB3.grown zg hB3.size (fun j e => by cases e; omega))
 have HOz := Hid.mk' (hO3.grown zg (by simp))
 clear hrow3 hg3 hgc
 go_wp2_with fail
 refine bodyPost_ret (v := .agg #[.int .i64 kind, .int .i64 tx, .slice (some ⟨w.heap.size + 1 + 1, 0, none⟩) len len]) ?_ rfl ⟨_, rfl, HOz.out, HBz.out⟩
 simp [results, Tryz.results165, go_sem, hzc.1, hzc.2.1, hzc.2.2]
theorem infoRW : (Tryz.prog.info? 133).map (fun i => (i.zero, i.size, i.bytes)) = some (some (.agg #[.int .i64 0, .int .i64 0, .slice none 0 0]), 3, 40) := by kernel_rfl
theorem rec_cellsW (w : World) (a b : Int) (v : Value) (t : TypeId) : ∀ j u, ([.int .i64 a, .int .i64 b, v] : List Value)[j]? = some u → (w.alloc (.cells #[.int .i64 a, .int .i64 b, v] t)).cell? ((⟨w.heap.size, 0, none⟩ : Addr).add j) = some u := cells_three w (.int .i64 a) (.int .i64 b) v t
theorem rec_oneW (a b : Int) {v : Value} (h : v.oneCell' = true) : ∀ u ∈ ([.int .i64 a, .int .i64 b, v] : List Value), u.oneCell' = true := by
 intro u hu
 simp at hu
 rcases hu with rfl | rfl | rfl
 · rfl
 · rfl
 · exact h
def stillHeld (f : Int → Rc) (l : List Rc) : List Rc := l.filter fun r => decide ((f r.2.1).1 = 1)
theorem still_snoc (f : Int → Rc) (l : List Rc) (k : Nat) (h : k < l.length) : stillHeld f (l.take (k + 1)) = if (f l[k].2.1).1 = 1 then stillHeld f (l.take k) ++ [l[k]] else stillHeld f (l.take k) := by
 unfold stillHeld
 rw [List.take_succ_eq_append_getElem h, List.filter_append]
 by_cases e : (f l[k].2.1).1 = 1
 · rw [if_pos e]; simp [e]
 · rw [if_neg e]; simp [e]
theorem still_le (f : Int → Rc) (l : List Rc) : (stillHeld f l).length ≤ l.length := List.length_filter_le _ _
set_option maxRecDepth 100000 in
set_option maxHeartbeats 4000000 in
theorem i_heldOf (X B1 B2 n1 : Nat) (pv : Value) (f : Int → Rc) (a : Option Addr) (len cap : Nat) (l : List Rc) (w0 w : World) (hM : BoxM X pv B1 B2 w) (hL : Lasts w0 w B1 n1 f) (h : SlR w a len l) (hsz : len ≤ 1099511627776) (hops : ∀ r ∈ l, r.2.2.length ≤ 1099511627776) :
 Calls Tryz.prog 157 #[.pointer (some ⟨X, 0, none⟩), .slice a len cap] w fun e w' =>
  ∃ g cp hs, e = .returned (.slice (some ⟨g, 0, none⟩) (stillHeld f l).length cp) ∧ OwnR w' w.heap.size (.slice (some ⟨g, 0, none⟩) (stillHeld f l).length cp) (stillHeld f l) hs ∧ Below w.heap.size w w' := by
 obtain ⟨i0, hi, hz0, hz1, hz2⟩ := info_parts infoRW
 obtain ⟨hl, hm, hsm, hc⟩ := id h
 subst hl
 unfold maxLen at hm
 have hba : Below w.heap.size w (w.alloc (.cells #[] 133)) := (Below.refl _ _).alloc (Nat.le_refl _) _
 have hOm := ownR_made w w.heap.size (Nat.le_refl _)
 go_enter Tryz.func157, Tryz.ntmps157
 go_wp2_with (at_builtin; fail)
 go_loopw [5, 11] (fun ov iv wr => ∃ (k g cp : Nat) (hs : List Value), k ≤ l.length ∧ ov = .slice (some ⟨g, 0, none⟩) (stillHeld f (l.take k)).length cp ∧ iv = .int .i64 (k : Int) ∧ OwnR wr w.heap.size (.slice (some ⟨g, 0, none⟩) (stillHeld f (l.take k)).length cp) (stillHeld f (l.take k)) hs ∧ Below w.heap.size w wr) (fun _ iv _ => l.length - (intOf iv).toNat)
 case atStart => exact ⟨0, w.heap.size, 0, [], Nat.zero_le _, rfl, rfl, hOm, hba⟩
 case round =>
  clear hOm hba
  obtain ⟨k, g, cp, hs, hk, rfl, rfl, hO, hB⟩ := hrel
  have hbw := hB.size
  by_cases hlt : k < l.length
  · obtain ⟨b, off, ha, _⟩ := hc (by omega)
    subst ha
    obtain ⟨c0, c1, pa, pl, pc, c2, hSo, _⟩ := (h.at k hlt).below hB
    have hki : (k : Int) < (l.length : Int) := by omega
    have hsr := hsm _ (List.getElem_mem hlt)
    have htw : (Lit.int .i64 l[k].2.1).wf = true := hsr.2.1
    have hol := hops _ (List.getElem_mem hlt)
    have HST := Hid.mk' (still_snoc f l k hlt)
    have hsl := still_le f (l.take k)
    have htk : (l.take k).length ≤ k := List.length_take_le _ _
    generalize l[k] = r at *
    generalize stillHeld f (l.take k) = acc at *
    obtain ⟨W, hW⟩ : ∃ W, W = wr.alloc (.cells #[.int .i64 r.1, .int .i64 r.2.1, .slice pa pl pc] 133) := ⟨_, rfl⟩
    have hba : Below wr.heap.size wr W := by rw [hW]; exact (Below.refl _ _).alloc (Nat.le_refl _) _
    have hbx : BoxR wr.heap.size r.1 r.2.1 (.slice pa pl pc) W := by rw [hW]; exact boxR_new _ _ _ _
    have hBW := hB.trans (hba.mono hbw)
    have hMW := hM.below hBW
    have hLW := hL.below hBW
    have hOW := hO.below hba
    obtain ⟨la, lm, lc, hla, hls, hlk0⟩ := hLW.look htw
    have hlk : ∀ x : last.On W.heap.size W, (Instr.lookup 228 (.map (some B1)) (.int .i64 r.2.1) false).run Tryz.prog x.w = .ok (.agg #[.int .i64 (f r.2.1).1, .int .i64 (f r.2.1).2.1, .slice la lm lc]) x.w := fun x => hlk0 _ (x.2.block B1 hLW.lt)
    have hfd := field0
    obtain ⟨x0, x1, x2⟩ := hMW.cells
    obtain ⟨d0, d1, d2⟩ := hbx.cells
    have y1 := last.On.cell x1 hMW.lt
    have z1 := last.On.cell d1 hbx.lt
    have hinh := last.On.inh W.heap.size W
    have HW := Hid.mk' hW.symm
    have hSW := hSo.below hba
    clear hW hlk0 hO x0 x1 x2 d0 d1 d2 hSo
    by_cases hh : (f r.2.1).1 = 1
    · have hhb : ((f r.2.1).1 == 1) = true := by rw [hh]; rfl
      rw [if_pos hh] at HST
      go_wp2_with (at_builtin; fail)
      rw [HW.out]
      refine last.wp_region_on W.heap.size (by kernel_rfl) (by kernel_rfl) ?_
      repeat (go_big_quiet_step (fail))
      refine wpQuiet_nil ?_
      intro w2 hw2
      obtain ⟨x2', hw2⟩ := hw2
      have hb2 : Below W.heap.size W w2 := by rw [hw2]; exact x2'.2
      clear hw2 x2' hinh hlk y1 z1 hfd HW c0 c1 c2
      have hO2 := hOW.below hb2
      have hB2 := hBW.trans (hb2.mono hBW.size)
      obtain ⟨d0, d1, d2⟩ := (hbx.below hb2).cells
      have hpl := hSW.1
      have HOR := Hid.mk' (i_ownRec r.1 r.2.1 pa pl pc r.2.2 w2 (hSW.below hb2) (by omega))
      go_wp2_with (at_builtin; fail)
      refine HOR.out.mono ?_
      rintro e w3 ⟨g3, rfl, hO3, hb3⟩
      have hV3 := (ownV_of hO3).mono (base' := w.heap.size) hB2.size
      have hOa := hO2.below hb3
      have hB3 := hB2.trans (hb3.mono hB2.size)
      have hg3 := hO3.lt
      have hout : ∀ j, (Value.slice (some ⟨g3, 0, none⟩) pl pl).ownBlock = some j → ¬ BlkR (.slice (some ⟨g, 0, none⟩) acc.length cp) hs j := fun j hj hb => by
       have e1 : g3 = j := by simpa [Value.ownBlock] using hj
       have := (hO2.lt j hb).2
       omega
      have HOU := Hid.mk' hout
      have hbn : Below w3.heap.size w3 (w3.alloc (.cells #[.int .i64 r.1, .int .i64 r.2.1, .slice (some ⟨g3, 0, none⟩) pl pl] 133)) := (Below.refl _ _).alloc (Nat.le_refl _) _
      have hO4 := hOa.below hbn
      have hV4 := hV3.below hbn
      have hB4 := hB3.trans (hbn.mono hB3.size)
      have HOC := Hid.mk' (rec_cellsW w3 r.1 r.2.1 (.slice (some ⟨g3, 0, none⟩) pl pl) 133)
      have HON := Hid.mk' (rec_oneW r.1 r.2.1 hV3.one)
      have hc3 : acc.length + 1 ≤ maxLen := by unfold maxLen; omega
      have hc4 : (acc.length + 1) * 40 ≤ 140737488355328 := by omega
      clear HOR hO3 hb3 hV3 hOa hB3 hbn hout hO2 hB2 d0 d1 d2
      go_wp2_with (at_builtin; refine wpList_append_own _ rfl (.tmp 24) (.tmp 27) 52 rfl w.heap.size 133 i0 (.agg #[.int .i64 0, .int .i64 0, .slice none 0 0]) 3 40 Tryz.underlying52 hi hz0 hz1 hz2 rfl (by decide) _ _ _ rfl hO4.row ⟨w3.heap.size, 0, none⟩ 1 1 _ rfl rfl HOC.out HON.out hc3 hc4 hB4.size ?_)
      intro v5 w5 hown5 hgrow5 hnn5
      have hnn' : ¬ v5 = .slice none 0 0 := by simpa using hnn5
      have hO5 := hO4.snoc hV4 hsr HOU.out hown5 hgrow5
      have hB5 : Below w.heap.size w w5 := hB4.grown hgrow5 hB4.size (fun j e => (hO4.row.lt j e).1)
      rw [← HST.out] at hO5
      rcases hO5.shape with ⟨hv5, _⟩ | ⟨g5, cp5, hv5, _⟩
      · exact absurd hv5 hnn'
      · subst hv5
        have HO5 := Hid.mk' hO5
        clear hown5 hgrow5 hnn5 hnn' hO5 hO4 hB4 hV4 HOC HON HOU
        go_wp2_with (at_builtin; fail)
        go_roundw
        case rel => exact ⟨k + 1, g5, cp5, _, by omega, by rw [HST.out], by go_num, HO5.out, hB5⟩
        case measure => simp [intOf]; omega
    · have hhb : ((f r.2.1).1 == 1) = false := beq_eq_false_iff_ne.2 hh
      rw [if_neg hh] at HST
      go_wp2_with (at_builtin; fail)
      rw [HW.out]
      refine last.wp_region_on W.heap.size (by kernel_rfl) (by kernel_rfl) ?_
      repeat (go_big_quiet_step (fail))
      refine wpQuiet_nil ?_
      intro w2 hw2
      obtain ⟨x2', hw2⟩ := hw2
      have hb2 : Below W.heap.size W w2 := by rw [hw2]; exact x2'.2
      clear hw2 x2' hinh hlk y1 z1 hfd HW c0 c1 c2
      have hO2 := hOW.below hb2
      have hB2 := hBW.trans (hb2.mono hBW.size)
      rw [← HST.out] at hO2
      have hLN : Hid (acc.length = (stillHeld f (l.take (k + 1))).length) := by show _ = _; rw [HST.out]
      go_wp2_with (at_builtin; fail)
      go_roundw
      case rel => exact ⟨k + 1, g, cp, hs, by omega, by rw [hLN.out], by go_num, hO2, hB2⟩
      case measure => simp [intOf]; omega
  · have HE : Hid (l.take k = l) := List.take_of_length_le (by omega)
    have hLN : Hid (stillHeld f (l.take k) = stillHeld f l) := by show _ = _; rw [HE.out]
    have hex : ¬ (k : Int) < (l.length : Int) := by omega
    rw [hLN.out] at hO ⊢
    go_wp2_with (at_builtin; fail)
    go_ret
    exact ⟨g, cp, rfl, ⟨hs, hO⟩, hB⟩
end recs
namespace recs
open Go Go.RowKit base pairs ords
def nextP (m : List Pr) (f : Int → Rc) (r : Rc) : List Pr := if r.1 = 2 then applyAll m (f r.2.1).2.2 else m
def nextH (f : Int → Rc) (hf : ByteArray → Nat) (r : Rc) : ByteArray → Nat := putK (delK hf (f r.2.1).2.2) r.2.2 r.2.1.toNat
structure Rel (pre : List Rc) (s : St) (f : Int → Rc) (hf : ByteArray → Nat) : Prop where
 new : ∀ tx, tx ∉ s.2.2 → f tx = (0, 0, [])
 old : ∀ tx, tx ∈ s.2.2 → (f tx).1 ≠ 0
 held : ∀ r ∈ s.2.1, f r.2.1 = r ∧ recOk r = true ∧ r.1 = 1
 back : ∀ tx, (f tx).1 = 1 → f tx ∈ s.2.1 ∧ (f tx).2.1 = tx
 bare : ∀ tx, (f tx).1 ≠ 1 → (f tx).2.2 = []
 keys : ∀ key, hf key ≠ 0 ↔ ∃ r ∈ s.2.1, hasKey r.2.2 key = true
 still : s.2.1 = stillHeld f pre
 met : ∀ r ∈ pre, r.2.1 ∈ s.2.2
 few : s.1.length ≤ 60
 apart : s.2.1.Pairwise fun a b => a.2.1 ≠ b.2.1 ∧ ∀ key, hasKey a.2.2 key = true → hasKey b.2.2 key = false
theorem hasKey_iff (ops : List Od) (s : ByteArray) : hasKey ops s = true ↔ ∃ o ∈ ops, o.2.1 = s := by simp [hasKey]
theorem locked_iff (held : List Rc) (ops : List Od) : locked held ops = true ↔ ∃ r ∈ held, ∃ o ∈ ops, hasKey r.2.2 o.2.1 = true := by
 unfold locked
 simp only [List.any_eq_true, decide_eq_true_eq, hasKey_iff]
 constructor
 · rintro ⟨r, hr, o, ho, p, hp, e⟩; exact ⟨r, hr, p, hp, o, ho, e⟩
 · rintro ⟨r, hr, p, hp, o, ho, e⟩; exact ⟨r, hr, o, ho, p, hp, e⟩
theorem rel_start : Rel [] ([], [], []) (fun _ => (0, 0, [])) (fun _ => 0) :=
 ⟨fun _ _ => rfl, fun _ h => absurd h List.not_mem_nil, fun _ h => absurd h List.not_mem_nil, fun _ h => by simp at h, fun _ _ => rfl, fun key => by simp, rfl, fun _ h => absurd h List.not_mem_nil, Nat.zero_le _, List.Pairwise.nil⟩
theorem cut_is {held : List Rc} {tx : Int} {k : Nat} (hp : held.Pairwise fun a b => a.2.1 ≠ b.2.1) (h : placeTx tx held = some k) : held.take k ++ held.drop (k + 1) = held.filter fun r => decide (r.2.1 ≠ tx) := by
 induction held generalizing k with
 | nil => cases h
 | cons r l ih =>
  rw [List.pairwise_cons] at hp
  rw [placeTx] at h
  split at h
  · next e =>
    cases h
    have : l.filter (fun r => decide (r.2.1 ≠ tx)) = l := List.filter_eq_self.2 fun x hx => by
     have := hp.1 x hx
     rw [e] at this
     simp; exact fun e2 => this e2.symm
    simp [List.filter_cons, e]
    simpa using this.symm
  · next e =>
    cases hq : placeTx tx l with
    | none => rw [hq] at h; cases h
    | some j =>
     rw [hq] at h
     simp only [Option.map_some, Option.some.injEq] at h
     subst h
     have := ih hp.2 hq
     simp only [List.take_succ_cons, List.drop_succ_cons, List.cons_append]
     rw [this]
     simp [List.filter_cons, e]
section
variable {pre : List Rc} {s : St} {f : Int → Rc} {hf : ByteArray → Nat}
theorem Rel.tx_in (h : Rel pre s f hf) {r : Rc} (hr : r ∈ s.2.1) : r.2.1 ∈ s.2.2 := by
 by_cases e : r.2.1 ∈ s.2.2
 · exact e
 · have h1 := h.new _ e
   obtain ⟨h2, _, h4⟩ := h.held r hr
   rw [h1] at h2
   rw [← h2] at h4
   simp at h4
theorem Rel.zero (h : Rel pre s f hf) (tx : Int) : (f tx).1 = 0 ↔ tx ∉ s.2.2 := by
 constructor
 · intro e hin; exact h.old tx hin e
 · intro e; rw [h.new tx e]
theorem still_upd (h : Rel pre s f hf) (tx : Int) (r : Rc) (htx : tx ∉ s.2.2) : stillHeld (updR f tx r) pre = stillHeld f pre := by
 unfold stillHeld
 refine List.filter_congr fun x hx => ?_
 have : x.2.1 ≠ tx := fun e => htx (e ▸ h.met x hx)
 unfold updR
 rw [if_neg this]
theorem rel_fits (h : Rel pre s f hf) (r : Rc) (hok : recOk r = true) : fitsP s.1 f hf r = true ↔ (if r.1 = 1 then r.2.1 ∉ s.2.2 ∧ locked s.2.1 r.2.2 = false ∧ meets s.1 r.2.2 = true else if r.1 = 2 then (f r.2.1).1 = 1 else (f r.2.1).1 = 1 ∨ (f r.2.1).1 = 0) := by
 have hlk : (r.2.2.any fun o => decide (hf o.2.1 ≠ 0)) = locked s.2.1 r.2.2 := by
  rw [Bool.eq_iff_iff, locked_iff, List.any_eq_true]
  constructor
  · rintro ⟨o, ho, e⟩
    obtain ⟨x, hx, hk⟩ := (h.keys o.2.1).1 (of_decide_eq_true e)
    exact ⟨x, hx, o, ho, hk⟩
  · rintro ⟨x, hx, o, ho, hk⟩
    exact ⟨o, ho, decide_eq_true ((h.keys o.2.1).2 ⟨x, hx, hk⟩)⟩
 unfold fitsP
 rw [hok, hlk, Bool.true_and]
 split
 · simp only [Bool.and_eq_true, Bool.not_eq_true', decide_eq_true_eq, h.zero]
 · split
   · simp
   · simp
theorem rel_step (h : Rel pre s f hf) (r : Rc) : (∃ t, one s r = some t ∧ fitsP s.1 f hf r = true ∧ t.1 = nextP s.1 f r ∧ t.1.length ≤ 60 ∧ Rel (pre ++ [r]) t (updR f r.2.1 r) (nextH f hf r)) ∨ (one s r = none ∧ (fitsP s.1 f hf r = false ∨ (fitsP s.1 f hf r = true ∧ 60 < (nextP s.1 f r).length))) := by
 cases hok : recOk r
 · right
   refine ⟨?_, .inl ?_⟩
   · unfold one; rw [hok]; rfl
   · unfold fitsP; rw [hok]; rfl
 · have hfit := rel_fits h r hok
   obtain ⟨⟨ht1, ht2⟩, hcase⟩ := (recOk_iff r).1 hok
   by_cases hk1 : r.1 = 1
   · rw [if_pos hk1] at hfit
     by_cases hc : r.2.1 ∉ s.2.2 ∧ locked s.2.1 r.2.2 = false ∧ meets s.1 r.2.2 = true
     · left
       have hfz := h.new _ hc.1
       have hnh : nextH f hf r = putK hf r.2.2 r.2.1.toNat := by unfold nextH; rw [hfz]; rfl
       have hnm : nextP s.1 f r = s.1 := by unfold nextP; rw [if_neg (by omega)]
       refine ⟨(s.1, s.2.1 ++ [r], s.2.2 ++ [r.2.1]), ?_, hfit.2 hc, hnm.symm, h.few, ?_⟩
       · unfold one
         rw [if_pos hok, if_pos hk1, if_neg]
         simp [hc.1, hc.2.1, hc.2.2]
       · rw [hnh]
         have hne : ∀ x ∈ s.2.1, x.2.1 ≠ r.2.1 := fun x hx e => hc.1 (e ▸ h.tx_in hx)
         refine ⟨fun tx ht => ?_, fun tx ht => ?_, fun x hx => ?_, fun tx ht => ?_, fun tx ht => ?_, fun key => ?_, ?_, fun x hx => ?_, h.few, ?_⟩
         · simp at ht
           unfold updR; rw [if_neg ht.2]; exact h.new tx ht.1
         · unfold updR
           split
           · omega
           · next e => exact h.old tx (by simpa [e] using ht)
         · rcases List.mem_append.1 hx with e | e
           · unfold updR; rw [if_neg (hne x e)]; exact h.held x e
           · rw [List.mem_singleton.1 e]; unfold updR; rw [if_pos rfl]; exact ⟨rfl, hok, hk1⟩
         · unfold updR at ht ⊢
           split at ht
           · next e => rw [if_pos e]; exact ⟨List.mem_append.2 (.inr (by simp)), e.symm⟩
           · next e => rw [if_neg e]; exact ⟨List.mem_append.2 (.inl (h.back tx ht).1), (h.back tx ht).2⟩
         · unfold updR at ht ⊢
           split at ht
           · exact absurd hk1 ht
           · next e => rw [if_neg e]; exact h.bare tx ht
         · unfold putK
           constructor
           · intro e
             split at e
             · next e2 => exact ⟨r, List.mem_append.2 (.inr (by simp)), e2⟩
             · obtain ⟨x, hx, hk⟩ := (h.keys key).1 e
               exact ⟨x, List.mem_append.2 (.inl hx), hk⟩
           · rintro ⟨x, hx, hk⟩
             split
             · omega
             · next e2 =>
               rcases List.mem_append.1 hx with e | e
               · exact (h.keys key).2 ⟨x, e, hk⟩
               · rw [List.mem_singleton.1 e] at hk; exact absurd hk e2
         · have e1 := still_upd h r.2.1 r hc.1
           unfold stillHeld at e1 ⊢
           rw [List.filter_append, e1]
           have : decide ((updR f r.2.1 r r.2.1).1 = 1) = true := by unfold updR; rw [if_pos rfl]; simpa using hk1
           simp only [List.filter_cons, this, if_true, List.filter_nil]
           rw [h.still]; rfl
         · rcases List.mem_append.1 hx with e | e
           · exact List.mem_append.2 (.inl (h.met x e))
           · rw [List.mem_singleton.1 e]; simp
         · rw [List.pairwise_append]
           refine ⟨h.apart, by simp, fun x hx y hy => ?_⟩
           rw [List.mem_singleton.1 hy]
           refine ⟨hne x hx, fun key hk => ?_⟩
           rw [← Bool.not_eq_true]
           intro e
           obtain ⟨o, ho, e2⟩ := (hasKey_iff _ _).1 e
           have : locked s.2.1 r.2.2 = true := (locked_iff _ _).2 ⟨x, hx, o, ho, by rw [e2]; exact hk⟩
           rw [hc.2.1] at this
           cases this
     · right
       refine ⟨?_, .inl ?_⟩
       · unfold one
         rw [if_pos hok, if_pos hk1, if_pos]
         by_cases h1 : r.2.1 ∈ s.2.2
         · exact .inl (decide_eq_true h1)
         · right
           cases h2 : locked s.2.1 r.2.2
           · right
             cases h3 : meets s.1 r.2.2
             · rfl
             · exact absurd ⟨h1, h2, h3⟩ hc
           · exact .inl rfl
       · rw [← Bool.not_eq_true]; intro e; exact hc (hfit.1 e)
   · rw [if_neg hk1] at hfit
     have hops : r.2.2 = [] := by rcases hcase with ⟨h1, _⟩ | ⟨_, h1⟩; exact absurd h1 hk1; exact h1
     have hk23 : r.1 = 2 ∨ r.1 = 3 := by rcases hcase with ⟨h1, _⟩ | ⟨h1, _⟩; exact absurd h1 hk1; exact h1
     have hnh : nextH f hf r = delK hf (f r.2.1).2.2 := by unfold nextH; rw [hops]; rfl
     have hone : one s r = match placeTx r.2.1 s.2.1 with
      | none => if r.1 = 3 ∧ r.2.1 ∉ s.2.2 then some (s.1, s.2.1, s.2.2 ++ [r.2.1]) else none
      | some k => if (nextM s r k).length ≤ 60 then some (nextM s r k, s.2.1.take k ++ s.2.1.drop (k + 1), s.2.2) else none := by
      unfold one
      rw [if_pos hok, if_neg hk1]
      cases placeTx r.2.1 s.2.1 <;> rfl
     have hpw : s.2.1.Pairwise fun a b => a.2.1 ≠ b.2.1 := h.apart.imp fun x => x.1
     cases hpl : placeTx r.2.1 s.2.1 with
     | none =>
      have hnone := placeTx_none hpl
      rw [hpl] at hone
      simp only [] at hone
      have hf1 : (f r.2.1).1 ≠ 1 := fun e => hnone _ (h.back _ e).1 (h.back _ e).2
      by_cases hc : r.1 = 3 ∧ r.2.1 ∉ s.2.2
      · left
        rw [if_pos hc] at hone
        have hfz := h.new _ hc.2
        have hnh2 : nextH f hf r = hf := by rw [hnh, hfz]; rfl
        have hnm : nextP s.1 f r = s.1 := by unfold nextP; rw [if_neg (by omega)]
        refine ⟨_, hone, hfit.2 (by rw [if_neg (by omega)]; exact .inr (by rw [hfz])), hnm.symm, h.few, ?_⟩
        rw [hnh2]
        have hne : ∀ x ∈ s.2.1, x.2.1 ≠ r.2.1 := fun x hx => hnone x hx
        refine ⟨fun tx ht => ?_, fun tx ht => ?_, fun x hx => ?_, fun tx ht => ?_, fun tx ht => ?_, h.keys, ?_, fun x hx => ?_, h.few, h.apart⟩
        · simp at ht
          unfold updR; rw [if_neg ht.2]; exact h.new tx ht.1
        · unfold updR
          split
          · omega
          · next e => exact h.old tx (by simpa [e] using ht)
        · unfold updR; rw [if_neg (hne x hx)]; exact h.held x hx
        · unfold updR at ht ⊢
          split at ht
          · omega
          · next e => rw [if_neg e]; exact h.back tx ht
        · unfold updR at ht ⊢
          split at ht
          · next e => rw [if_pos e]; exact hops
          · next e => rw [if_neg e]; exact h.bare tx ht
        · have e1 := still_upd h r.2.1 r hc.2
          unfold stillHeld at e1 ⊢
          rw [List.filter_append, e1]
          have : decide ((updR f r.2.1 r r.2.1).1 = 1) = false := by unfold updR; rw [if_pos rfl]; simpa using hk1
          simp only [List.filter_cons, this, List.filter_nil, Bool.false_eq_true, if_false, List.append_nil]
          exact h.still
        · rcases List.mem_append.1 hx with e | e
          · exact List.mem_append.2 (.inl (h.met x e))
          · rw [List.mem_singleton.1 e]; simp
      · right
        rw [if_neg hc] at hone
        refine ⟨hone, .inl ?_⟩
        rw [← Bool.not_eq_true]
        intro e
        have e2 := hfit.1 e
        rcases hk23 with e3 | e3
        · rw [if_pos e3] at e2; exact hf1 e2
        · rw [if_neg (by omega)] at e2
          rcases e2 with e2 | e2
          · exact hf1 e2
          · exact hc ⟨e3, (h.zero _).1 e2⟩
     | some k =>
      rw [hpl] at hone
      simp only [] at hone
      obtain ⟨hkl, hkt⟩ := placeTx_some hpl
      have hmem : s.2.1[k] ∈ s.2.1 := List.getElem_mem hkl
      obtain ⟨h4, h5, h6⟩ := h.held _ hmem
      rw [hkt] at h4
      have hft : (f r.2.1).1 = 1 := by rw [h4]; exact h6
      have hnm : nextM s r k = nextP s.1 f r := by
       unfold nextM nextP opsAt
       rw [List.getElem?_eq_getElem hkl, h4]
      rw [hnm, cut_is hpw hpl] at hone
      have hfits : fitsP s.1 f hf r = true := hfit.2 (by
       rcases hk23 with e3 | e3
       · rw [if_pos e3]; exact hft
       · rw [if_neg (by omega)]; exact .inl hft)
      by_cases hlen : (nextP s.1 f r).length ≤ 60
      · left
        rw [if_pos hlen] at hone
        refine ⟨_, hone, hfits, rfl, hlen, ?_⟩
        rw [hnh]
        have hin : r.2.1 ∈ s.2.2 := by have := h.tx_in hmem; rwa [hkt] at this
        refine ⟨fun tx ht => ?_, fun tx ht => ?_, fun x hx => ?_, fun tx ht => ?_, fun tx ht => ?_, fun key => ?_, ?_, fun x hx => ?_, hlen, List.Pairwise.filter _ h.apart⟩
        · have e : tx ≠ r.2.1 := fun e => ht (e ▸ hin)
          unfold updR; rw [if_neg e]; exact h.new tx ht
        · unfold updR
          split
          · omega
          · exact h.old tx ht
        · obtain ⟨hx1, hx2⟩ := List.mem_filter.1 hx
          unfold updR; rw [if_neg (of_decide_eq_true hx2)]; exact h.held x hx1
        · unfold updR at ht ⊢
          split at ht
          · omega
          · next e =>
            rw [if_neg e]
            have hb := h.back tx ht
            exact ⟨List.mem_filter.2 ⟨hb.1, decide_eq_true (by rw [hb.2]; exact e)⟩, hb.2⟩
        · unfold updR at ht ⊢
          split at ht
          · next e => rw [if_pos e]; exact hops
          · next e => rw [if_neg e]; exact h.bare tx ht
        · rw [h4]
          have hfar : ∀ x ∈ s.2.1, x.2.1 ≠ r.2.1 → ∀ key, hasKey x.2.2 key = true → hasKey s.2.1[k].2.2 key = false := by
           intro x hx hne key hk
           obtain ⟨j, hj, rfl⟩ := List.getElem_of_mem hx
           rcases Nat.lt_trichotomy j k with e | e | e
           · exact (List.pairwise_iff_getElem.1 h.apart j k hj hkl e).2 key hk
           · subst e; exact absurd hkt hne
           · have := (List.pairwise_iff_getElem.1 h.apart k j hkl hj e).2 key
             cases e2 : hasKey s.2.1[k].2.2 key
             · rfl
             · rw [this e2] at hk; cases hk
          unfold delK
          constructor
          · intro e
            split at e
            · exact absurd rfl e
            · next e2 =>
              obtain ⟨x, hx, hk⟩ := (h.keys key).1 e
              refine ⟨x, List.mem_filter.2 ⟨hx, decide_eq_true fun e3 => ?_⟩, hk⟩
              have h7 := (h.held x hx).1
              rw [e3, h4] at h7
              rw [h7] at e2
              exact e2 hk
          · rintro ⟨x, hx, hk⟩
            obtain ⟨hx1, hx2⟩ := List.mem_filter.1 hx
            rw [if_neg (by rw [hfar x hx1 (of_decide_eq_true hx2) key hk]; decide)]
            exact (h.keys key).2 ⟨x, hx1, hk⟩
        · show s.2.1.filter _ = _
          rw [h.still]
          unfold stillHeld
          rw [List.filter_append, List.filter_filter]
          have : decide ((updR f r.2.1 r r.2.1).1 = 1) = false := by unfold updR; rw [if_pos rfl]; simpa using hk1
          simp only [List.filter_cons, this, List.filter_nil, Bool.false_eq_true, if_false, List.append_nil]
          refine List.filter_congr fun x hx => ?_
          unfold updR
          by_cases e : x.2.1 = r.2.1
          · rw [if_pos e]; simp [e, hk1]
          · rw [if_neg e]; simp [e]
        · rcases List.mem_append.1 hx with e | e
          · exact h.met x e
          · rw [List.mem_singleton.1 e]; exact hin
      · right
        rw [if_neg hlen] at hone
        exact ⟨hone, .inr ⟨hfits, by omega⟩⟩
end
end recs
end Go.Proofs.YtijplooogplccaaGreat
