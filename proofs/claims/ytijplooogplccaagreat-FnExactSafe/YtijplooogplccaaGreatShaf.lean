/- CoT -/
import Derived.Test.YtijplooogplccaaGreatShae
import Derived.Test.YtijplooogplccaaGreatShad
import Derived.BigQuiet
set_option linter.unusedVariables false
set_option linter.unusedSimpArgs false
namespace Go.Proofs.YtijplooogplccaaGreat
namespace cos
open Go Go.RowKit base pairs ords lay wds
set_option maxRecDepth 100000 in
set_option maxHeartbeats 1000000 in
theorem spec_opsNil (a : Option Addr) (cap : Nat) (w : World) :
 Calls Tryz.prog 47 #[.slice a 0 cap] w fun e w' => e = .returned (.bool false) ∧ w' = w := by
 go_enter Tryz.func47, Tryz.ntmps47
 go_wp2_with fail
 refine wp_loop_rounds 1 ?_
 rw [rounds_succ]
 go_wp2_with fail
 refine (s_inZ 0 1 8 _).mono ?_
 rintro e w9 ⟨rfl, rfl⟩
 go_wp2_with fail
 go_ret
 exact ⟨ret_bool (by decide), rfl⟩
theorem spec_opsOkA (a : Option Addr) (len cap : Nat) (l : List Od) (w : World) (h : SlO w a len l) (hks : ∀ p ∈ l, p.2.1.size ≤ 1099511627776) :
 Calls Tryz.prog 47 #[.slice a len cap] w fun e w' => e = .returned (.bool (opsOk l)) ∧ Below w.heap.size w w' := by
 by_cases h0 : len = 0
 · subst h0
   obtain rfl : l = [] := List.eq_nil_of_length_eq_zero h.1
   refine (spec_opsNil a cap w).mono ?_
   rintro e w' ⟨rfl, rfl⟩
   exact ⟨rfl, Below.refl _ _⟩
 · obtain ⟨b, off, ha, _⟩ := h.2.2.2 (by omega)
   subst ha
   exact spec_opsOk b off len cap l w h hks
def BoxJ (X : Nat) (tx st : Int) (v y : Value) (w : World) : Prop := w.heap[X]? = some (.cells #[.int .i64 tx, v, .int .i64 st, y] 107 (0, 0))
section
variable {X : Nat} {tx st : Int} {v y : Value} {w w' : World}
theorem BoxJ.cells (h : BoxJ X tx st v y w) : w.cell? ⟨X, 0, none⟩ = some (.int .i64 tx) ∧ w.cell? ⟨X, 1, none⟩ = some v ∧ w.cell? ⟨X, 2, none⟩ = some (.int .i64 st) ∧ w.cell? ⟨X, 3, none⟩ = some y := by
 unfold BoxJ at h
 simp [World.cell?, h]
theorem BoxJ.lt (h : BoxJ X tx st v y w) : X < w.heap.size := (Array.getElem?_eq_some_iff.1 h).1
theorem BoxJ.below (h : BoxJ X tx st v y w) (hb : Below w.heap.size w w') : BoxJ X tx st v y w' := (hb.block X h.lt).trans h
end
def prevTx (jobs : List Jb) (i : Nat) : Option Int := match i with | 0 => none | i + 1 => (jobs[i]?).map fun j => j.1
def jobA (life next : Int) (p : Option Int) (j : Jb) : Bool := decide (life * 1000 ≤ j.1 ∧ j.1 ≤ life * 1000 + next - 1) && (match p with | none => true | some q => decide (q < j.1)) && opsOk j.2.1 && decide (1 ≤ j.2.2.1 ∧ j.2.2.1 ≤ 3)
theorem jobOk_eq (n life next : Int) (log : List Ch) (p : Option Int) (j : Jb) : jobOk n life next log p j = (jobA life next p j && yesOk (shardsOf n j.2.1) none j.2.2.2 && stateOk j.2.2.1 (choice log j.1)) := rfl
structure AtJ (w0 w : World) (n life next sure : Int) (ja : Option Addr) (jn jc : Nat) (la : Option Addr) (ln lc : Nat) (tx st : Int) (oa : Option Addr) (ol oc : Nat) (ya : Option Addr) (yl yc : Nat) (ops : List Od) (yes : List Int) (log : List Ch) : Prop where
 bel : Below w0.heap.size w0 w
 bc : BoxC w0.heap.size n life next sure ja jn jc la ln lc w
 bj : BoxJ (w0.heap.size + 1) tx st (.slice oa ol oc) (.slice ya yl yc) w
 ops : SlO w oa ol ops
 yes : SlZ w ya yl yes
 log : SlG chR w la ln log
theorem AtJ.below {w0 w w' : World} {n life next sure : Int} {ja : Option Addr} {jn jc : Nat} {la : Option Addr} {ln lc : Nat} {tx st : Int} {oa : Option Addr} {ol oc : Nat} {ya : Option Addr} {yl yc : Nat} {ops : List Od} {yes : List Int} {log : List Ch} (h : AtJ w0 w n life next sure ja jn jc la ln lc tx st oa ol oc ya yl yc ops yes log) (hb : Below w.heap.size w w') : AtJ w0 w' n life next sure ja jn jc la ln lc tx st oa ol oc ya yl yc ops yes log :=
 ⟨h.bel.trans (hb.mono h.bel.size), h.bc.below hb, h.bj.below hb, h.ops.below hb, h.yes.below hb, h.log.below hb⟩
theorem yes_step {list : List Int} {yes : List Int} {k : Nat} {p : Option Int} (hk : k < yes.length) : yesOk list p (yes.drop k) = ((decide (yes[k] ∈ list) && match p with | none => true | some q => decide (q < yes[k])) && yesOk list (some yes[k]) (yes.drop (k + 1))) := by
 rw [List.drop_eq_getElem_cons hk]; rfl
def prevZ (l : List Int) (k : Nat) : Option Int := match k with | 0 => none | k + 1 => l[k]?
theorem prevZ_succ {l : List Int} {k : Nat} (hk : k < l.length) : prevZ l (k + 1) = some l[k] := List.getElem?_eq_getElem hk
set_option maxRecDepth 100000 in
set_option maxHeartbeats 4000000 in
theorem specJobZ (n life next sure : Int) (jb joff jn jc : Nat) (la : Option Addr) (ln lc : Nat) (tx st : Int) (oa : Option Addr) (ol oc : Nat) (ya : Option Addr) (yl yc : Nat) (ops : List Od) (yes : List Int) (log : List Ch) (w : World) (hn : 1 ≤ n ∧ n ≤ 8) (hlf : 1 ≤ life ∧ life ≤ 900) (hnx : 0 ≤ next ∧ next ≤ 999) (hi : 0 < jn) (hjn : jn ≤ 1099511627776) (hol : ol ≤ 1099511627776) (hks : ∀ p ∈ ops, p.2.1.size ≤ 1099511627776)
 (c0 : w.cell? ⟨jb, joff, none⟩ = some (.int .i64 tx)) (c1 : w.cell? ⟨jb, joff + 1, none⟩ = some (.slice oa ol oc)) (c2 : w.cell? ⟨jb, joff + 2, none⟩ = some (.int .i64 st)) (c3 : w.cell? ⟨jb, joff + 3, none⟩ = some (.slice ya yl yc)) (hO : SlO w oa ol ops) (hY : SlZ w ya yl yes) (hG : SlG chR w la ln log) :
 Calls Tryz.prog 45 #[coV n life next sure (some ⟨jb, joff, none⟩) jn jc la ln lc, .int .i64 0] w fun e w' => e = .returned (.bool (jobOk n life next log none (tx, ops, st, yes))) ∧ Below w.heap.size w w' := by
 have HR := Hid.mk' (jobOk_eq n life next log none (tx, ops, st, yes))
 obtain ⟨W1, hW1⟩ : ∃ W1, w.alloc (coO n life next sure (some ⟨jb, joff, none⟩) jn jc la ln lc) = W1 := ⟨_, rfl⟩
 have hb1 : Below w.heap.size w W1 := by rw [← hW1]; exact below_new _ _
 have hs1 : W1.heap.size = w.heap.size + 1 := by rw [← hW1]; simp
 have hbc1 : BoxC w.heap.size n life next sure (some ⟨jb, joff, none⟩) jn jc la ln lc W1 := by rw [← hW1]; exact boxC_new _ _ _ _ _ _ _ _ _ _ _
 obtain ⟨W, hW⟩ : ∃ W, W1.alloc (.cells #[.int .i64 tx, .slice oa ol oc, .int .i64 st, .slice ya yl yc] 107) = W := ⟨_, rfl⟩
 have hb2 : Below W1.heap.size W1 W := by rw [← hW]; exact below_new _ _
 have hbj : BoxJ (w.heap.size + 1) tx st (.slice oa ol oc) (.slice ya yl yc) W := by rw [← hW, ← hs1]; exact heap_alloc_new W1 _
 have hB := hb1.trans (hb2.mono hb1.size)
 have hA : AtJ w W n life next sure (some ⟨jb, joff, none⟩) jn jc la ln lc tx st oa ol oc ya yl yc ops yes log := ⟨hB, hbc1.below hb2, hbj, hO.below hB, hY.below hB, hG.below hB⟩
 have d0 := (hb1.cell (World.block_lt_of_cell? w _ c0)).trans c0
 have d1 := (hb1.cell (World.block_lt_of_cell? w _ c1)).trans c1
 have d2 := (hb1.cell (World.block_lt_of_cell? w _ c2)).trans c2
 have d3 := (hb1.cell (World.block_lt_of_cell? w _ c3)).trans c3
 obtain ⟨b0, b1, b2, b3, b4, b5⟩ := hbc1.cells
 rw [← hW1] at d0 d1 d2 d3 b0 b1 b2 b3 b4 b5
 have hii : 0 < (jn : Int) := by omega
 have HW : Hid ((w.alloc (coO n life next sure (some ⟨jb, joff, none⟩) jn jc la ln lc)).alloc (.cells #[.int .i64 tx, .slice oa ol oc, .int .i64 st, .slice ya yl yc] 107) = W) := by show _ = _; rw [hW1, hW]
 have w1 : IntKind.i64.wrap (life * 1000) = life * 1000 := by rw [IntKind.wrap_i64]; omega
 have w2 : IntKind.i64.wrap (life * 1000 + next) = life * 1000 + next := by rw [IntKind.wrap_i64]; omega
 have w3 : IntKind.i64.wrap (life * 1000 + next - 1) = life * 1000 + next - 1 := by rw [IntKind.wrap_i64]; omega
 obtain ⟨x0, x1, x2, x3, x4, x5⟩ := hA.bc.cells
 obtain ⟨y0, y1, y2, y3⟩ := hA.bj.cells
 have o0 := last.On.cell (B := W.heap.size) x0 (World.block_lt_of_cell? _ _ x0)
 have o1 := last.On.cell (B := W.heap.size) x1 (World.block_lt_of_cell? _ _ x1)
 have o2 := last.On.cell (B := W.heap.size) x2 (World.block_lt_of_cell? _ _ x2)
 have o3 := last.On.cell (B := W.heap.size) x3 (World.block_lt_of_cell? _ _ x3)
 have p0 := last.On.cell (B := W.heap.size) y0 (World.block_lt_of_cell? _ _ y0)
 have p1 := last.On.cell (B := W.heap.size) y1 (World.block_lt_of_cell? _ _ y1)
 have p2 := last.On.cell (B := W.heap.size) y2 (World.block_lt_of_cell? _ _ y2)
 have hinh := last.On.inh W.heap.size W
 have hin1 : ∀ x : last.On W.heap.size W, Calls Tryz.prog 43 #[.int .i64 tx, .int .i64 (life * 1000), .int .i64 (life * 1000 + next - 1)] x.w fun e w' => e = .returned (.bool (decide (life * 1000 ≤ tx ∧ tx ≤ life * 1000 + next - 1))) ∧ ∃ y : last.On W.heap.size W, w' = y.w := fun x => last.Calls.on x (Nat.le_refl _) ((s_inZ tx (life * 1000) (life * 1000 + next - 1) x.w).mono fun e w' ⟨he, hw⟩ => ⟨he, by rw [hw]; exact Below.refl _ _⟩)
 have hin2 : ∀ x : last.On W.heap.size W, Calls Tryz.prog 43 #[.int .i64 st, .int .i64 1, .int .i64 3] x.w fun e w' => e = .returned (.bool (decide (1 ≤ st ∧ st ≤ 3))) ∧ ∃ y : last.On W.heap.size W, w' = y.w := fun x => last.Calls.on x (Nat.le_refl _) ((s_inZ st 1 3 x.w).mono fun e w' ⟨he, hw⟩ => ⟨he, by rw [hw]; exact Below.refl _ _⟩)
 have hops : ∀ x : last.On W.heap.size W, Calls Tryz.prog 47 #[.slice oa ol oc] x.w fun e w' => e = .returned (.bool (opsOk ops)) ∧ ∃ y : last.On W.heap.size W, w' = y.w := fun x => last.Calls.on x (Nat.le_refl _) (spec_opsOkA oa ol oc ops x.w (hA.ops.below x.2) hks)
 have HJA : Hid (jobA life next none (tx, ops, st, yes) = (decide (life * 1000 ≤ tx ∧ tx ≤ life * 1000 + next - 1) && true && opsOk ops && decide (1 ≤ st ∧ st ≤ 3))) := rfl
 clear hW hW1 hb1 hb2 hbc1 hbj c0 c1 c2 c3 hO hY hG hks
 have HA := Hid.mk' hA
 clear hA x0 x1 x2 x3 x4 x5 y0 y1 y2 y3
 cases hA1 : decide (life * 1000 ≤ tx ∧ tx ≤ life * 1000 + next - 1)
 · rw [hA1] at hin1 HJA
   clear hA1
   have HF : Hid (jobOk n life next log none (tx, ops, st, yes) = false) := by show _ = _; rw [HR.out, HJA.out]; simp
   go_enter Tryz.func45, Tryz.ntmps45
   go_wp2_with fail
   rw [HW.out]
   refine last.wp_region_on W.heap.size (by kernel_rfl) (by kernel_rfl) ?_
   repeat (go_big_quiet_step ((first | (go_at_call 47; with_reducible exact hops _) | (go_at_call 43; with_reducible exact hin1 _) | (go_at_call 43; with_reducible exact hin2 _))))
   refine wpQuiet_nil ?_
   intro wq hwq
   obtain ⟨xq, hwq⟩ := hwq
   subst hwq
   have hbq : Below W.heap.size W xq.w := xq.2
   generalize xq.w = w4 at *
   clear o0 o1 o2 o3 p0 p1 p2 hin1 hin2 hops hinh
   go_wp2_with fail
   go_ret
   exact ⟨ret_bool HF.out.symm, hB.trans (hbq.mono hB.size)⟩
 · rw [hA1] at hin1 HJA
   clear hA1
   cases hA3 : opsOk ops
   · rw [hA3] at hops HJA
     clear hA3
     have HF : Hid (jobOk n life next log none (tx, ops, st, yes) = false) := by show _ = _; rw [HR.out, HJA.out]; simp
     go_enter Tryz.func45, Tryz.ntmps45
     go_wp2_with fail
     rw [HW.out]
     refine last.wp_region_on W.heap.size (by kernel_rfl) (by kernel_rfl) ?_
     repeat (go_big_quiet_step ((first | (go_at_call 47; with_reducible exact hops _) | (go_at_call 43; with_reducible exact hin1 _) | (go_at_call 43; with_reducible exact hin2 _))))
     refine wpQuiet_nil ?_
     intro wq hwq
     obtain ⟨xq, hwq⟩ := hwq
     subst hwq
     have hbq : Below W.heap.size W xq.w := xq.2
     generalize xq.w = w4 at *
     clear o0 o1 o2 o3 p0 p1 p2 hin1 hin2 hops hinh
     go_wp2_with fail
     go_ret
     exact ⟨ret_bool HF.out.symm, hB.trans (hbq.mono hB.size)⟩
   · have hop := hA3
     rw [hA3] at hops HJA
     clear hA3
     cases hA4 : decide (1 ≤ st ∧ st ≤ 3)
     · rw [hA4] at hin2 HJA
       clear hA4
       have HF : Hid (jobOk n life next log none (tx, ops, st, yes) = false) := by show _ = _; rw [HR.out, HJA.out]; simp
       go_enter Tryz.func45, Tryz.ntmps45
       go_wp2_with fail
       rw [HW.out]
       refine last.wp_region_on W.heap.size (by kernel_rfl) (by kernel_rfl) ?_
       repeat (go_big_quiet_step ((first | (go_at_call 47; with_reducible exact hops _) | (go_at_call 43; with_reducible exact hin1 _) | (go_at_call 43; with_reducible exact hin2 _))))
       refine wpQuiet_nil ?_
       intro wq hwq
       obtain ⟨xq, hwq⟩ := hwq
       subst hwq
       have hbq : Below W.heap.size W xq.w := xq.2
       generalize xq.w = w4 at *
       clear o0 o1 o2 o3 p0 p1 p2 hin1 hin2 hops hinh
       go_wp2_with fail
       go_ret
       exact ⟨ret_bool HF.out.symm, hB.trans (hbq.mono hB.size)⟩
     · have hst := of_decide_eq_true hA4
       rw [hA4] at hin2 HJA
       clear hA4
       have HR2 : Hid (jobOk n life next log none (tx, ops, st, yes) = (yesOk (shardsOf n ops) none yes && stateOk st (choice log tx))) := by show _ = _; rw [HR.out, HJA.out]; simp
       clear HR HJA
       go_enter Tryz.func45, Tryz.ntmps45
       go_wp2_with fail
       rw [HW.out]
       refine last.wp_region_on W.heap.size (by kernel_rfl) (by kernel_rfl) ?_
       repeat (go_big_quiet_step ((first | (go_at_call 47; with_reducible exact hops _) | (go_at_call 43; with_reducible exact hin1 _) | (go_at_call 43; with_reducible exact hin2 _))))
       refine wpQuiet_nil ?_
       intro wq hwq
       obtain ⟨xq, hwq⟩ := hwq
       subst hwq
       have hbq : Below W.heap.size W xq.w := xq.2
       generalize xq.w = w4 at *
       clear o0 o1 o2 o3 p0 p1 p2 hin1 hin2 hops hinh
       have hA4 := HA.out.below hbq
       have HZ := Hid.mk' (spec_shardsOf oa ol oc ops n w4 hA4.ops hol (WalkArith.wf_i64 (by omega)))
       obtain ⟨x0, x1, x2, x3, x4, x5⟩ := hA4.bc.cells
       obtain ⟨y0, y1, y2, y3⟩ := hA4.bj.cells
       clear HA hbq
       go_wp2_with fail
       refine HZ.out.mono ?_
       rintro e w5 ⟨gz, nz, cz, rfl, hZ5, hb5⟩
       have hA5 := hA4.below hb5
       have hZS := hZ5.sl
       generalize shardsOf n ops = list at *
       clear HZ hA4 x0 x1 x2 x3 x4 x5 y0 y1 y2 y3 hb5 hZ5 hop
       have HZS := Hid.mk' hZS
       have HA5 := Hid.mk' hA5
       have hyl := hA5.yes.1
       have hym := hA5.yes.2.1
       unfold maxLen at hym
       obtain ⟨x0, x1, x2, x3, x4, x5⟩ := hA5.bc.cells
       obtain ⟨y0, y1, y2, y3⟩ := hA5.bj.cells
       clear hA5 hZS
       go_wp2_with fail
       go_loopw [7] (fun i wr => ∃ k : Nat, k ≤ yl ∧ i = .int .i64 (k : Int) ∧ Below w5.heap.size w5 wr ∧ yesOk list none yes = yesOk list (prevZ yes k) (yes.drop k)) (fun i _ => yl - (intOf i).toNat)
       case atStart => exact ⟨0, Nat.zero_le _, rfl, Below.refl _ _, rfl⟩
       case round =>
        clear x0 x1 x2 x3 x4 x5 y0 y1 y2 y3
        obtain ⟨k, hk, rfl, hbr, hye⟩ := hrel
        have hAr := HA5.out.below hbr
        have hZr := HZS.out.below hbr
        obtain ⟨x0, x1, x2, x3, x4, x5⟩ := hAr.bc.cells
        obtain ⟨y0, y1, y2, y3⟩ := hAr.bj.cells
        have hBr := hAr.bel
        by_cases hlt : k < yl
        · have hltl : k < yes.length := by omega
          obtain ⟨yb, yo, e, hyc⟩ := hAr.yes.2.2 (by omega)
          subst e
          have hki : (k : Int) < (yl : Int) := by omega
          have hck := hyc k hltl
          rw [yes_step hltl] at hye
          have HYE := Hid.mk' hye
          have HHAS : Hid (∀ x : last.On wr.heap.size wr, Calls Tryz.prog 83 #[.slice (some ⟨gz, 0, none⟩) nz cz, .int .i64 yes[k]] x.w fun e w' => e = .returned (.bool (decide (yes[k] ∈ list))) ∧ ∃ y : last.On wr.heap.size wr, w' = y.w) := fun x => last.Calls.on x (Nat.le_refl _) ((spec_l7Has (some ⟨gz, 0, none⟩) nz cz list yes[k] x.w (hZr.below x.2)).mono fun e w' ⟨he, hw⟩ => ⟨he, by rw [hw]; exact Below.refl _ _⟩)
          have HPV : Hid (yesOk list (some yes[k]) (yes.drop (k + 1)) = yesOk list (prevZ yes (k + 1)) (yes.drop (k + 1))) := by show _ = _; rw [prevZ_succ hltl]
          have r3 := last.On.cell (B := wr.heap.size) y3 (World.block_lt_of_cell? _ _ y3)
          have rk := last.On.cell (B := wr.heap.size) hck (World.block_lt_of_cell? _ _ hck)
          have hinr := last.On.inh wr.heap.size wr
          clear hye
          cases k with
          | zero =>
           simp only [prevZ] at HYE
           simp only [Nat.add_zero] at rk hck
           have hhas := HHAS.out
           clear HHAS
           generalize yes[0] = z at *
           cases hh : decide (z ∈ list)
           · rw [hh] at hhas HYE
             clear hh
             have HF : Hid (jobOk n life next log none (tx, ops, st, yes) = false) := by show _ = _; rw [HR2.out, HYE.out]; simp
             go_wp2_with fail
             refine last.wp_region_on wr.heap.size (by kernel_rfl) (by kernel_rfl) ?_
             repeat (go_big_quiet_step ((go_at_call 83; with_reducible exact hhas _)))
             refine wpQuiet_nil ?_
             intro wq hwq
             obtain ⟨xq, hwq⟩ := hwq
             subst hwq
             have hbq : Below wr.heap.size wr xq.w := xq.2
             generalize xq.w = w7 at *
             clear r3 rk hinr hhas
             go_wp2_with fail
             go_ret
             exact ⟨ret_bool HF.out.symm, hBr.trans (hbq.mono hBr.size)⟩
           · rw [hh] at hhas HYE
             clear hh
             go_wp2_with fail
             refine last.wp_region_on wr.heap.size (by kernel_rfl) (by kernel_rfl) ?_
             repeat (go_big_quiet_step ((go_at_call 83; with_reducible exact hhas _)))
             refine wpQuiet_nil ?_
             intro wq hwq
             obtain ⟨xq, hwq⟩ := hwq
             subst hwq
             have hbq : Below wr.heap.size wr xq.w := xq.2
             generalize xq.w = w7 at *
             clear r3 rk hinr hhas
             have hbz := hbr.trans (hbq.mono hbr.size)
             go_wp2_with fail
             go_roundw
             case rel => exact ⟨0 + 1, by omega, by go_num, hbz, by rw [HYE.out, ← HPV.out]; simp⟩
             case measure => simp [intOf]; omega
          | succ k' =>
           have hcp := hyc k' (by omega)
           have rp := last.On.cell (B := wr.heap.size) hcp (World.block_lt_of_cell? _ _ hcp)
           have hpz : prevZ yes (k' + 1) = some (yes[k']'(by omega)) := prevZ_succ (by omega)
           rw [hpz] at HYE
           have hhas := HHAS.out
           have wk : IntKind.i64.wrap ((k' : Int) + 1 - 1) = (k' : Int) := by rw [IntKind.wrap_i64]; omega
           clear HHAS hpz
           generalize yes[k']'(by omega) = z0 at *
           generalize yes[k' + 1] = z at *
           cases hh : decide (z ∈ list)
           · rw [hh] at hhas HYE
             clear hh
             have HF : Hid (jobOk n life next log none (tx, ops, st, yes) = false) := by show _ = _; rw [HR2.out, HYE.out]; simp
             go_wp2_with fail
             refine last.wp_region_on wr.heap.size (by kernel_rfl) (by kernel_rfl) ?_
             repeat (go_big_quiet_step ((go_at_call 83; with_reducible exact hhas _)))
             refine wpQuiet_nil ?_
             intro wq hwq
             obtain ⟨xq, hwq⟩ := hwq
             subst hwq
             have hbq : Below wr.heap.size wr xq.w := xq.2
             generalize xq.w = w7 at *
             clear r3 rk hinr hhas rp
             go_wp2_with fail
             go_ret
             exact ⟨ret_bool HF.out.symm, hBr.trans (hbq.mono hBr.size)⟩
           · rw [hh] at hhas HYE
             clear hh
             by_cases hz : z0 < z
             · have hzd : decide (z0 < z) = true := decide_eq_true hz
               have hzi : ¬ z ≤ z0 := by omega
               simp only [hzd] at HYE
               clear hzd
               go_wp2_with fail
               refine last.wp_region_on wr.heap.size (by kernel_rfl) (by kernel_rfl) ?_
               repeat (go_big_quiet_step ((go_at_call 83; with_reducible exact hhas _)))
               refine wpQuiet_nil ?_
               intro wq hwq
               obtain ⟨xq, hwq⟩ := hwq
               subst hwq
               have hbq : Below wr.heap.size wr xq.w := xq.2
               generalize xq.w = w7 at *
               clear r3 rk hinr hhas rp
               have hbz := hbr.trans (hbq.mono hbr.size)
               go_wp2_with fail
               go_roundw
               case rel => exact ⟨k' + 1 + 1, by omega, by go_num, hbz, by rw [HYE.out, ← HPV.out]; simp⟩
               case measure => simp [intOf]; omega
             · have hzd : decide (z0 < z) = false := decide_eq_false hz
               have hzi : z ≤ z0 := by omega
               simp only [hzd] at HYE
               clear hzd
               have HF : Hid (jobOk n life next log none (tx, ops, st, yes) = false) := by show _ = _; rw [HR2.out, HYE.out]; simp
               go_wp2_with fail
               refine last.wp_region_on wr.heap.size (by kernel_rfl) (by kernel_rfl) ?_
               repeat (go_big_quiet_step ((go_at_call 83; with_reducible exact hhas _)))
               refine wpQuiet_nil ?_
               intro wq hwq
               obtain ⟨xq, hwq⟩ := hwq
               subst hwq
               have hbq : Below wr.heap.size wr xq.w := xq.2
               generalize xq.w = w7 at *
               clear r3 rk hinr hhas rp
               go_wp2_with fail
               go_ret
               exact ⟨ret_bool HF.out.symm, hBr.trans (hbq.mono hBr.size)⟩
        · have hnk : ¬ (k : Int) < (yl : Int) := by omega
          have HY1 : Hid (yesOk list none yes = true) := by show _ = _; rw [hye, List.drop_of_length_le (by omega)]; cases prevZ yes k <;> rfl
          clear hye
          have HCH := Hid.mk' (spec_chosen n life next sure (some ⟨jb, joff, none⟩) jn jc la ln lc log tx wr hAr.log)
          have hbz := below_new wr (coO n life next sure (some ⟨jb, joff, none⟩) jn jc la ln lc)
          have hAz := hAr.below hbz
          have hgl := hAz.log
          obtain ⟨z0, z1, z2, z3, z4, z5⟩ := hAz.bc.cells
          obtain ⟨v0, v1, v2, v3⟩ := hAz.bj.cells
          have hBz := hAz.bel
          obtain ⟨Wz, hWz⟩ : ∃ Wz, wr.alloc (coO n life next sure (some ⟨jb, joff, none⟩) jn jc la ln lc) = Wz := ⟨_, rfl⟩
          rw [hWz] at HCH hgl z0 z1 z2 z3 z4 z5 v0 v1 v2 v3 hBz
          clear hWz hAz hbz
          have hst3 : st = 1 ∨ st = 2 ∨ st = 3 := by omega
          have HRR : Hid (jobOk n life next log none (tx, ops, st, yes) = stateOk st (choice log tx)) := by show _ = _; rw [HR2.out, HY1.out]; rfl
          rcases hch : chosen log tx with _ | k2
          · rw [hch, idx_none] at HCH
            rw [choice_none hch] at HRR
            clear hch HR2 HY1
            rcases hst3 with rfl | rfl | rfl
            all_goals
             go_wp2_with fail
             refine HCH.out.mono ?_
             rintro e w6 ⟨rfl, hw6⟩
             replace hw6 := hw6.symm
             subst hw6
             go_wp2_with fail
             go_ret
             exact ⟨ret_bool (by rw [HRR.out]; rfl), hBz⟩
          · obtain ⟨hk2, hcs⟩ := choice_some hch
            rw [hch, idx_some] at HCH
            rw [hcs] at HRR
            have hll := hgl.1
            obtain ⟨lb, lo, e⟩ := slg_some hgl (by omega)
            subst e
            have hcy := (ch_at hgl k2 hk2).2
            have hk2i : (k2 : Int) < (ln : Int) := by omega
            have hk2n : ¬ (k2 : Int) < 0 := by omega
            generalize log[k2].2 = yy at *
            clear hch hcs HR2 HY1
            rcases hst3 with rfl | rfl | rfl <;> cases yy
            all_goals
             go_wp2_with fail
             refine HCH.out.mono ?_
             rintro e w6 ⟨rfl, hw6⟩
             replace hw6 := hw6.symm
             subst hw6
             go_wp2_with fail
             go_ret
             exact ⟨ret_bool (by rw [HRR.out]; rfl), hBz⟩
set_option maxRecDepth 100000 in
set_option maxHeartbeats 4000000 in
theorem specJobS (n life next sure : Int) (jb joff jn jc : Nat) (la : Option Addr) (ln lc : Nat) (tx st : Int) (oa : Option Addr) (ol oc : Nat) (ya : Option Addr) (yl yc : Nat) (ops : List Od) (yes : List Int) (log : List Ch) (i : Nat) (q : Int) (w : World) (hn : 1 ≤ n ∧ n ≤ 8) (hlf : 1 ≤ life ∧ life ≤ 900) (hnx : 0 ≤ next ∧ next ≤ 999) (hi : i + 1 < jn) (hjn : jn ≤ 1099511627776) (hol : ol ≤ 1099511627776) (hks : ∀ p ∈ ops, p.2.1.size ≤ 1099511627776)
 (c0 : w.cell? ⟨jb, joff + (i + 1) * 4, none⟩ = some (.int .i64 tx)) (c1 : w.cell? ⟨jb, joff + (i + 1) * 4 + 1, none⟩ = some (.slice oa ol oc)) (c2 : w.cell? ⟨jb, joff + (i + 1) * 4 + 2, none⟩ = some (.int .i64 st)) (c3 : w.cell? ⟨jb, joff + (i + 1) * 4 + 3, none⟩ = some (.slice ya yl yc)) (cp : w.cell? ⟨jb, joff + i * 4, none⟩ = some (.int .i64 q)) (hO : SlO w oa ol ops) (hY : SlZ w ya yl yes) (hG : SlG chR w la ln log) :
 Calls Tryz.prog 45 #[coV n life next sure (some ⟨jb, joff, none⟩) jn jc la ln lc, .int .i64 ((i : Int) + 1)] w fun e w' => e = .returned (.bool (jobOk n life next log (some q) (tx, ops, st, yes))) ∧ Below w.heap.size w w' := by
 have HR := Hid.mk' (jobOk_eq n life next log (some q) (tx, ops, st, yes))
 obtain ⟨W1, hW1⟩ : ∃ W1, w.alloc (coO n life next sure (some ⟨jb, joff, none⟩) jn jc la ln lc) = W1 := ⟨_, rfl⟩
 have hb1 : Below w.heap.size w W1 := by rw [← hW1]; exact below_new _ _
 have hs1 : W1.heap.size = w.heap.size + 1 := by rw [← hW1]; simp
 have hbc1 : BoxC w.heap.size n life next sure (some ⟨jb, joff, none⟩) jn jc la ln lc W1 := by rw [← hW1]; exact boxC_new _ _ _ _ _ _ _ _ _ _ _
 obtain ⟨W, hW⟩ : ∃ W, W1.alloc (.cells #[.int .i64 tx, .slice oa ol oc, .int .i64 st, .slice ya yl yc] 107) = W := ⟨_, rfl⟩
 have hb2 : Below W1.heap.size W1 W := by rw [← hW]; exact below_new _ _
 have hbj : BoxJ (w.heap.size + 1) tx st (.slice oa ol oc) (.slice ya yl yc) W := by rw [← hW, ← hs1]; exact heap_alloc_new W1 _
 have hB := hb1.trans (hb2.mono hb1.size)
 have hA : AtJ w W n life next sure (some ⟨jb, joff, none⟩) jn jc la ln lc tx st oa ol oc ya yl yc ops yes log := ⟨hB, hbc1.below hb2, hbj, hO.below hB, hY.below hB, hG.below hB⟩
 have d0 := (hb1.cell (World.block_lt_of_cell? w _ c0)).trans c0
 have d1 := (hb1.cell (World.block_lt_of_cell? w _ c1)).trans c1
 have d2 := (hb1.cell (World.block_lt_of_cell? w _ c2)).trans c2
 have d3 := (hb1.cell (World.block_lt_of_cell? w _ c3)).trans c3
 obtain ⟨b0, b1, b2, b3, b4, b5⟩ := hbc1.cells
 rw [← hW1] at d0 d1 d2 d3 b0 b1 b2 b3 b4 b5
 have hii : ((i : Int) + 1) < (jn : Int) := by omega
 have HW : Hid ((w.alloc (coO n life next sure (some ⟨jb, joff, none⟩) jn jc la ln lc)).alloc (.cells #[.int .i64 tx, .slice oa ol oc, .int .i64 st, .slice ya yl yc] 107) = W) := by show _ = _; rw [hW1, hW]
 have w1 : IntKind.i64.wrap (life * 1000) = life * 1000 := by rw [IntKind.wrap_i64]; omega
 have w2 : IntKind.i64.wrap (life * 1000 + next) = life * 1000 + next := by rw [IntKind.wrap_i64]; omega
 have w3 : IntKind.i64.wrap (life * 1000 + next - 1) = life * 1000 + next - 1 := by rw [IntKind.wrap_i64]; omega
 obtain ⟨x0, x1, x2, x3, x4, x5⟩ := hA.bc.cells
 obtain ⟨y0, y1, y2, y3⟩ := hA.bj.cells
 have o0 := last.On.cell (B := W.heap.size) x0 (World.block_lt_of_cell? _ _ x0)
 have o1 := last.On.cell (B := W.heap.size) x1 (World.block_lt_of_cell? _ _ x1)
 have o2 := last.On.cell (B := W.heap.size) x2 (World.block_lt_of_cell? _ _ x2)
 have o3 := last.On.cell (B := W.heap.size) x3 (World.block_lt_of_cell? _ _ x3)
 have p0 := last.On.cell (B := W.heap.size) y0 (World.block_lt_of_cell? _ _ y0)
 have p1 := last.On.cell (B := W.heap.size) y1 (World.block_lt_of_cell? _ _ y1)
 have p2 := last.On.cell (B := W.heap.size) y2 (World.block_lt_of_cell? _ _ y2)
 have ce := (hB.cell (World.block_lt_of_cell? w _ cp)).trans cp
 have pe := last.On.cell (B := W.heap.size) ce (World.block_lt_of_cell? _ _ ce)
 have wi : IntKind.i64.wrap ((i : Int) + 1 - 1) = (i : Int) := by rw [IntKind.wrap_i64]; omega
 have hinh := last.On.inh W.heap.size W
 have hin1 : ∀ x : last.On W.heap.size W, Calls Tryz.prog 43 #[.int .i64 tx, .int .i64 (life * 1000), .int .i64 (life * 1000 + next - 1)] x.w fun e w' => e = .returned (.bool (decide (life * 1000 ≤ tx ∧ tx ≤ life * 1000 + next - 1))) ∧ ∃ y : last.On W.heap.size W, w' = y.w := fun x => last.Calls.on x (Nat.le_refl _) ((s_inZ tx (life * 1000) (life * 1000 + next - 1) x.w).mono fun e w' ⟨he, hw⟩ => ⟨he, by rw [hw]; exact Below.refl _ _⟩)
 have hin2 : ∀ x : last.On W.heap.size W, Calls Tryz.prog 43 #[.int .i64 st, .int .i64 1, .int .i64 3] x.w fun e w' => e = .returned (.bool (decide (1 ≤ st ∧ st ≤ 3))) ∧ ∃ y : last.On W.heap.size W, w' = y.w := fun x => last.Calls.on x (Nat.le_refl _) ((s_inZ st 1 3 x.w).mono fun e w' ⟨he, hw⟩ => ⟨he, by rw [hw]; exact Below.refl _ _⟩)
 have hops : ∀ x : last.On W.heap.size W, Calls Tryz.prog 47 #[.slice oa ol oc] x.w fun e w' => e = .returned (.bool (opsOk ops)) ∧ ∃ y : last.On W.heap.size W, w' = y.w := fun x => last.Calls.on x (Nat.le_refl _) (spec_opsOkA oa ol oc ops x.w (hA.ops.below x.2) hks)
 have HJA : Hid (jobA life next (some q) (tx, ops, st, yes) = (decide (life * 1000 ≤ tx ∧ tx ≤ life * 1000 + next - 1) && decide (q < tx) && opsOk ops && decide (1 ≤ st ∧ st ≤ 3))) := rfl
 clear hW hW1 hb1 hb2 hbc1 hbj c0 c1 c2 c3 hO hY hG hks cp ce
 have HA := Hid.mk' hA
 clear hA x0 x1 x2 x3 x4 x5 y0 y1 y2 y3
 cases hA1 : decide (life * 1000 ≤ tx ∧ tx ≤ life * 1000 + next - 1)
 · rw [hA1] at hin1 HJA
   clear hA1
   have HF : Hid (jobOk n life next log (some q) (tx, ops, st, yes) = false) := by show _ = _; rw [HR.out, HJA.out]; simp
   go_enter Tryz.func45, Tryz.ntmps45
   go_wp2_with fail
   rw [HW.out]
   refine last.wp_region_on W.heap.size (by kernel_rfl) (by kernel_rfl) ?_
   repeat (go_big_quiet_step ((first | (go_at_call 47; with_reducible exact hops _) | (go_at_call 43; with_reducible exact hin1 _) | (go_at_call 43; with_reducible exact hin2 _))))
   refine wpQuiet_nil ?_
   intro wq hwq
   obtain ⟨xq, hwq⟩ := hwq
   subst hwq
   have hbq : Below W.heap.size W xq.w := xq.2
   generalize xq.w = w4 at *
   clear o0 o1 o2 o3 p0 p1 p2 hin1 hin2 hops hinh pe
   go_wp2_with fail
   go_ret
   exact ⟨ret_bool HF.out.symm, hB.trans (hbq.mono hB.size)⟩
 · rw [hA1] at hin1 HJA
   clear hA1
   by_cases hq : q < tx
   · have hqb : decide (q < tx) = true := decide_eq_true hq
     have hqi : decide (tx ≤ q) = false := decide_eq_false (by omega)
     rw [hqb] at HJA
     clear hqb
     cases hA3 : opsOk ops
     · rw [hA3] at hops HJA
       clear hA3
       have HF : Hid (jobOk n life next log (some q) (tx, ops, st, yes) = false) := by show _ = _; rw [HR.out, HJA.out]; simp
       go_enter Tryz.func45, Tryz.ntmps45
       go_wp2_with fail
       rw [HW.out]
       refine last.wp_region_on W.heap.size (by kernel_rfl) (by kernel_rfl) ?_
       repeat (go_big_quiet_step ((first | (go_at_call 47; with_reducible exact hops _) | (go_at_call 43; with_reducible exact hin1 _) | (go_at_call 43; with_reducible exact hin2 _))))
       refine wpQuiet_nil ?_
       intro wq hwq
       obtain ⟨xq, hwq⟩ := hwq
       subst hwq
       have hbq : Below W.heap.size W xq.w := xq.2
       generalize xq.w = w4 at *
       clear o0 o1 o2 o3 p0 p1 p2 hin1 hin2 hops hinh pe
       go_wp2_with fail
       go_ret
       exact ⟨ret_bool HF.out.symm, hB.trans (hbq.mono hB.size)⟩
     · have hop := hA3
       rw [hA3] at hops HJA
       clear hA3
       cases hA4 : decide (1 ≤ st ∧ st ≤ 3)
       · rw [hA4] at hin2 HJA
         clear hA4
         have HF : Hid (jobOk n life next log (some q) (tx, ops, st, yes) = false) := by show _ = _; rw [HR.out, HJA.out]; simp
         go_enter Tryz.func45, Tryz.ntmps45
         go_wp2_with fail
         rw [HW.out]
         refine last.wp_region_on W.heap.size (by kernel_rfl) (by kernel_rfl) ?_
         repeat (go_big_quiet_step ((first | (go_at_call 47; with_reducible exact hops _) | (go_at_call 43; with_reducible exact hin1 _) | (go_at_call 43; with_reducible exact hin2 _))))
         refine wpQuiet_nil ?_
         intro wq hwq
         obtain ⟨xq, hwq⟩ := hwq
         subst hwq
         have hbq : Below W.heap.size W xq.w := xq.2
         generalize xq.w = w4 at *
         clear o0 o1 o2 o3 p0 p1 p2 hin1 hin2 hops hinh pe
         go_wp2_with fail
         go_ret
         exact ⟨ret_bool HF.out.symm, hB.trans (hbq.mono hB.size)⟩
       · have hst := of_decide_eq_true hA4
         rw [hA4] at hin2 HJA
         clear hA4
         have HR2 : Hid (jobOk n life next log (some q) (tx, ops, st, yes) = (yesOk (shardsOf n ops) none yes && stateOk st (choice log tx))) := by show _ = _; rw [HR.out, HJA.out]; simp
         clear HR HJA
         go_enter Tryz.func45, Tryz.ntmps45
         go_wp2_with fail
         rw [HW.out]
         refine last.wp_region_on W.heap.size (by kernel_rfl) (by kernel_rfl) ?_
         repeat (go_big_quiet_step ((first | (go_at_call 47; with_reducible exact hops _) | (go_at_call 43; with_reducible exact hin1 _) | (go_at_call 43; with_reducible exact hin2 _))))
         refine wpQuiet_nil ?_
         intro wq hwq
         obtain ⟨xq, hwq⟩ := hwq
         subst hwq
         have hbq : Below W.heap.size W xq.w := xq.2
         generalize xq.w = w4 at *
         clear o0 o1 o2 o3 p0 p1 p2 hin1 hin2 hops hinh pe
         have hA4 := HA.out.below hbq
         have HZ := Hid.mk' (spec_shardsOf oa ol oc ops n w4 hA4.ops hol (WalkArith.wf_i64 (by omega)))
         obtain ⟨x0, x1, x2, x3, x4, x5⟩ := hA4.bc.cells
         obtain ⟨y0, y1, y2, y3⟩ := hA4.bj.cells
         clear HA hbq
         go_wp2_with fail
         refine HZ.out.mono ?_
         rintro e w5 ⟨gz, nz, cz, rfl, hZ5, hb5⟩
         have hA5 := hA4.below hb5
         have hZS := hZ5.sl
         generalize shardsOf n ops = list at *
         clear HZ hA4 x0 x1 x2 x3 x4 x5 y0 y1 y2 y3 hb5 hZ5 hop
         have HZS := Hid.mk' hZS
         have HA5 := Hid.mk' hA5
         have hyl := hA5.yes.1
         have hym := hA5.yes.2.1
         unfold maxLen at hym
         obtain ⟨x0, x1, x2, x3, x4, x5⟩ := hA5.bc.cells
         obtain ⟨y0, y1, y2, y3⟩ := hA5.bj.cells
         clear hA5 hZS
         go_wp2_with fail
         go_loopw [7] (fun i wr => ∃ k : Nat, k ≤ yl ∧ i = .int .i64 (k : Int) ∧ Below w5.heap.size w5 wr ∧ yesOk list none yes = yesOk list (prevZ yes k) (yes.drop k)) (fun i _ => yl - (intOf i).toNat)
         case atStart => exact ⟨0, Nat.zero_le _, rfl, Below.refl _ _, rfl⟩
         case round =>
          clear x0 x1 x2 x3 x4 x5 y0 y1 y2 y3
          obtain ⟨k, hk, rfl, hbr, hye⟩ := hrel
          have hAr := HA5.out.below hbr
          have hZr := HZS.out.below hbr
          obtain ⟨x0, x1, x2, x3, x4, x5⟩ := hAr.bc.cells
          obtain ⟨y0, y1, y2, y3⟩ := hAr.bj.cells
          have hBr := hAr.bel
          by_cases hlt : k < yl
          · have hltl : k < yes.length := by omega
            obtain ⟨yb, yo, e, hyc⟩ := hAr.yes.2.2 (by omega)
            subst e
            have hki : (k : Int) < (yl : Int) := by omega
            have hck := hyc k hltl
            rw [yes_step hltl] at hye
            have HYE := Hid.mk' hye
            have HHAS : Hid (∀ x : last.On wr.heap.size wr, Calls Tryz.prog 83 #[.slice (some ⟨gz, 0, none⟩) nz cz, .int .i64 yes[k]] x.w fun e w' => e = .returned (.bool (decide (yes[k] ∈ list))) ∧ ∃ y : last.On wr.heap.size wr, w' = y.w) := fun x => last.Calls.on x (Nat.le_refl _) ((spec_l7Has (some ⟨gz, 0, none⟩) nz cz list yes[k] x.w (hZr.below x.2)).mono fun e w' ⟨he, hw⟩ => ⟨he, by rw [hw]; exact Below.refl _ _⟩)
            have HPV : Hid (yesOk list (some yes[k]) (yes.drop (k + 1)) = yesOk list (prevZ yes (k + 1)) (yes.drop (k + 1))) := by show _ = _; rw [prevZ_succ hltl]
            have r3 := last.On.cell (B := wr.heap.size) y3 (World.block_lt_of_cell? _ _ y3)
            have rk := last.On.cell (B := wr.heap.size) hck (World.block_lt_of_cell? _ _ hck)
            have hinr := last.On.inh wr.heap.size wr
            clear hye
            cases k with
            | zero =>
             simp only [prevZ] at HYE
             simp only [Nat.add_zero] at rk hck
             have hhas := HHAS.out
             clear HHAS
             generalize yes[0] = z at *
             cases hh : decide (z ∈ list)
             · rw [hh] at hhas HYE
               clear hh
               have HF : Hid (jobOk n life next log (some q) (tx, ops, st, yes) = false) := by show _ = _; rw [HR2.out, HYE.out]; simp
               go_wp2_with fail
               refine last.wp_region_on wr.heap.size (by kernel_rfl) (by kernel_rfl) ?_
               repeat (go_big_quiet_step ((go_at_call 83; with_reducible exact hhas _)))
               refine wpQuiet_nil ?_
               intro wq hwq
               obtain ⟨xq, hwq⟩ := hwq
               subst hwq
               have hbq : Below wr.heap.size wr xq.w := xq.2
               generalize xq.w = w7 at *
               clear r3 rk hinr hhas
               go_wp2_with fail
               go_ret
               exact ⟨ret_bool HF.out.symm, hBr.trans (hbq.mono hBr.size)⟩
             · rw [hh] at hhas HYE
               clear hh
               go_wp2_with fail
               refine last.wp_region_on wr.heap.size (by kernel_rfl) (by kernel_rfl) ?_
               repeat (go_big_quiet_step ((go_at_call 83; with_reducible exact hhas _)))
               refine wpQuiet_nil ?_
               intro wq hwq
               obtain ⟨xq, hwq⟩ := hwq
               subst hwq
               have hbq : Below wr.heap.size wr xq.w := xq.2
               generalize xq.w = w7 at *
               clear r3 rk hinr hhas
               have hbz := hbr.trans (hbq.mono hbr.size)
               go_wp2_with fail
               go_roundw
               case rel => exact ⟨0 + 1, by omega, by go_num, hbz, by rw [HYE.out, ← HPV.out]; simp⟩
               case measure => simp [intOf]; omega
            | succ k' =>
             have hcp := hyc k' (by omega)
             have rp := last.On.cell (B := wr.heap.size) hcp (World.block_lt_of_cell? _ _ hcp)
             have hpz : prevZ yes (k' + 1) = some (yes[k']'(by omega)) := prevZ_succ (by omega)
             rw [hpz] at HYE
             have hhas := HHAS.out
             have wk : IntKind.i64.wrap ((k' : Int) + 1 - 1) = (k' : Int) := by rw [IntKind.wrap_i64]; omega
             clear HHAS hpz
             generalize yes[k']'(by omega) = z0 at *
             generalize yes[k' + 1] = z at *
             cases hh : decide (z ∈ list)
             · rw [hh] at hhas HYE
               clear hh
               have HF : Hid (jobOk n life next log (some q) (tx, ops, st, yes) = false) := by show _ = _; rw [HR2.out, HYE.out]; simp
               go_wp2_with fail
               refine last.wp_region_on wr.heap.size (by kernel_rfl) (by kernel_rfl) ?_
               repeat (go_big_quiet_step ((go_at_call 83; with_reducible exact hhas _)))
               refine wpQuiet_nil ?_
               intro wq hwq
               obtain ⟨xq, hwq⟩ := hwq
               subst hwq
               have hbq : Below wr.heap.size wr xq.w := xq.2
               generalize xq.w = w7 at *
               clear r3 rk hinr hhas rp
               go_wp2_with fail
               go_ret
               exact ⟨ret_bool HF.out.symm, hBr.trans (hbq.mono hBr.size)⟩
             · rw [hh] at hhas HYE
               clear hh
               by_cases hz : z0 < z
               · have hzd : decide (z0 < z) = true := decide_eq_true hz
                 have hzi : ¬ z ≤ z0 := by omega
                 simp only [hzd] at HYE
                 clear hzd
                 go_wp2_with fail
                 refine last.wp_region_on wr.heap.size (by kernel_rfl) (by kernel_rfl) ?_
                 repeat (go_big_quiet_step ((go_at_call 83; with_reducible exact hhas _)))
                 refine wpQuiet_nil ?_
                 intro wq hwq
                 obtain ⟨xq, hwq⟩ := hwq
                 subst hwq
                 have hbq : Below wr.heap.size wr xq.w := xq.2
                 generalize xq.w = w7 at *
                 clear r3 rk hinr hhas rp
                 have hbz := hbr.trans (hbq.mono hbr.size)
                 go_wp2_with fail
                 go_roundw
                 case rel => exact ⟨k' + 1 + 1, by omega, by go_num, hbz, by rw [HYE.out, ← HPV.out]; simp⟩
                 case measure => simp [intOf]; omega
               · have hzd : decide (z0 < z) = false := decide_eq_false hz
                 have hzi : z ≤ z0 := by omega
                 simp only [hzd] at HYE
                 clear hzd
                 have HF : Hid (jobOk n life next log (some q) (tx, ops, st, yes) = false) := by show _ = _; rw [HR2.out, HYE.out]; simp
                 go_wp2_with fail
                 refine last.wp_region_on wr.heap.size (by kernel_rfl) (by kernel_rfl) ?_
                 repeat (go_big_quiet_step ((go_at_call 83; with_reducible exact hhas _)))
                 refine wpQuiet_nil ?_
                 intro wq hwq
                 obtain ⟨xq, hwq⟩ := hwq
                 subst hwq
                 have hbq : Below wr.heap.size wr xq.w := xq.2
                 generalize xq.w = w7 at *
                 clear r3 rk hinr hhas rp
                 go_wp2_with fail
                 go_ret
                 exact ⟨ret_bool HF.out.symm, hBr.trans (hbq.mono hBr.size)⟩
          · have hnk : ¬ (k : Int) < (yl : Int) := by omega
            have HY1 : Hid (yesOk list none yes = true) := by show _ = _; rw [hye, List.drop_of_length_le (by omega)]; cases prevZ yes k <;> rfl
            clear hye
            have HCH := Hid.mk' (spec_chosen n life next sure (some ⟨jb, joff, none⟩) jn jc la ln lc log tx wr hAr.log)
            have hbz := below_new wr (coO n life next sure (some ⟨jb, joff, none⟩) jn jc la ln lc)
            have hAz := hAr.below hbz
            have hgl := hAz.log
            obtain ⟨z0, z1, z2, z3, z4, z5⟩ := hAz.bc.cells
            obtain ⟨v0, v1, v2, v3⟩ := hAz.bj.cells
            have hBz := hAz.bel
            obtain ⟨Wz, hWz⟩ : ∃ Wz, wr.alloc (coO n life next sure (some ⟨jb, joff, none⟩) jn jc la ln lc) = Wz := ⟨_, rfl⟩
            rw [hWz] at HCH hgl z0 z1 z2 z3 z4 z5 v0 v1 v2 v3 hBz
            clear hWz hAz hbz
            have hst3 : st = 1 ∨ st = 2 ∨ st = 3 := by omega
            have HRR : Hid (jobOk n life next log (some q) (tx, ops, st, yes) = stateOk st (choice log tx)) := by show _ = _; rw [HR2.out, HY1.out]; rfl
            rcases hch : chosen log tx with _ | k2
            · rw [hch, idx_none] at HCH
              rw [choice_none hch] at HRR
              clear hch HR2 HY1
              rcases hst3 with rfl | rfl | rfl
              all_goals
               go_wp2_with fail
               refine HCH.out.mono ?_
               rintro e w6 ⟨rfl, hw6⟩
               replace hw6 := hw6.symm
               subst hw6
               go_wp2_with fail
               go_ret
               exact ⟨ret_bool (by rw [HRR.out]; rfl), hBz⟩
            · obtain ⟨hk2, hcs⟩ := choice_some hch
              rw [hch, idx_some] at HCH
              rw [hcs] at HRR
              have hll := hgl.1
              obtain ⟨lb, lo, e⟩ := slg_some hgl (by omega)
              subst e
              have hcy := (ch_at hgl k2 hk2).2
              have hk2i : (k2 : Int) < (ln : Int) := by omega
              have hk2n : ¬ (k2 : Int) < 0 := by omega
              generalize log[k2].2 = yy at *
              clear hch hcs HR2 HY1
              rcases hst3 with rfl | rfl | rfl <;> cases yy
              all_goals
               go_wp2_with fail
               refine HCH.out.mono ?_
               rintro e w6 ⟨rfl, hw6⟩
               replace hw6 := hw6.symm
               subst hw6
               go_wp2_with fail
               go_ret
               exact ⟨ret_bool (by rw [HRR.out]; rfl), hBz⟩
   · have hqb : decide (q < tx) = false := decide_eq_false hq
     have hqi : decide (tx ≤ q) = true := decide_eq_true (by omega)
     rw [hqb] at HJA
     clear hqb
     have HF : Hid (jobOk n life next log (some q) (tx, ops, st, yes) = false) := by show _ = _; rw [HR.out, HJA.out]; simp
     go_enter Tryz.func45, Tryz.ntmps45
     go_wp2_with fail
     rw [HW.out]
     refine last.wp_region_on W.heap.size (by kernel_rfl) (by kernel_rfl) ?_
     repeat (go_big_quiet_step ((first | (go_at_call 47; with_reducible exact hops _) | (go_at_call 43; with_reducible exact hin1 _) | (go_at_call 43; with_reducible exact hin2 _))))
     refine wpQuiet_nil ?_
     intro wq hwq
     obtain ⟨xq, hwq⟩ := hwq
     subst hwq
     have hbq : Below W.heap.size W xq.w := xq.2
     generalize xq.w = w4 at *
     clear o0 o1 o2 o3 p0 p1 p2 hin1 hin2 hops hinh pe
     go_wp2_with fail
     go_ret
     exact ⟨ret_bool HF.out.symm, hB.trans (hbq.mono hB.size)⟩
end cos
end Go.Proofs.YtijplooogplccaaGreat
