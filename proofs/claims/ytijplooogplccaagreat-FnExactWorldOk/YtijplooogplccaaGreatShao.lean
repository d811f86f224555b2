/- The program's replay: one record more is taken. The program's replay: a record of the call's own, and what is held. -/
import Derived.Test.YtijplooogplccaaGreatShan
import Derived.Laws.CopyOwn
import Derived.Laws.CopyRow
namespace Go.Proofs.YtijplooogplccaaGreat.recs
open Go Go.RowKit Go.Proofs.YtijplooogplccaaGreat.base Go.Proofs.YtijplooogplccaaGreat.pairs Go.Proofs.YtijplooogplccaaGreat.ords
open Go.WideMaps (keyOf_string_mk)
set_option linter.unusedVariables false
set_option linter.unusedSimpArgs false

theorem boxM_set {X B1 B2 : Nat} {pv : Value} {w : World} (h : BoxM X pv B1 B2 w) (v : Value) : BoxM X v B1 B2 (w.setCell ⟨X, 0, none⟩ v) ∧ w.grownBy (w.setCell ⟨X, 0, none⟩ v) (some X) := by
  have h0 : w.heap[X]? = some (.cells #[pv, .map (some B1), .map (some B2)] 231 (0, 0)) := h
  have s0 := set_cur h0 0 v
  exact ⟨s0.1, s0.2⟩
def hasKey (ops : List Od) (s : ByteArray) : Bool := ops.any fun o => decide (o.2.1 = s)
def delK (h : ByteArray → Nat) (ops : List Od) (s : ByteArray) : Nat := if hasKey ops s = true then 0 else h s
def putK (h : ByteArray → Nat) (ops : List Od) (t : Nat) (s : ByteArray) : Nat := if hasKey ops s = true then t else h s
theorem hasKey_snoc (ops : List Od) (o : Od) (s : ByteArray) : hasKey (ops ++ [o]) s = (hasKey ops s || decide (o.2.1 = s)) := by simp [hasKey]
theorem delK_snoc (h : ByteArray → Nat) (ops : List Od) (o : Od) : delK h (ops ++ [o]) = fun s => if s = o.2.1 then 0 else delK h ops s := by
  funext s
  unfold delK
  rw [hasKey_snoc]
  by_cases e : o.2.1 = s
  · subst e; simp
  · have e2 : ¬ s = o.2.1 := fun x => e x.symm
    simp [e, e2]
theorem putK_snoc (h : ByteArray → Nat) (ops : List Od) (t : Nat) (o : Od) (s : ByteArray) : putK h (ops ++ [o]) t s = if s = o.2.1 then t else putK h ops t s := by
  unfold putK
  rw [hasKey_snoc]
  by_cases e : o.2.1 = s
  · subst e; simp
  · have e2 : ¬ s = o.2.1 := fun x => e x.symm
    simp [e, e2]
theorem step_delete {ops : Array Oper} {o : Oper} {a : Act} {w : World} {K : Act → World → Prop} {Q : Exit → Act → World → Prop} {E : Prop} (hgd : o.guard = none) (m x : Operand) (hop : o.op = Op.call { callee := Callee.builtin Builtin.delete, args := #[m, x], argTypes := #[229, 9] })
    {B n : Nat} {f : ByteArray → Nat} (hm : a.eval m = .map (some B)) (hT : Tally w B n f) {s : ByteArray} (hs : s.size ≤ maxLen) (hx : a.eval x = .string s)
    (h : ∀ w', Tally w' B n (fun t => if t = s then 0 else f t) → w.grownBy w' (some B) → K (a.put o.dst (.tuple #[])) w') :
    if Region.wanted o (yielded ops a.tmps) = true then Oper.wp Tryz.prog o a w K Q else E := by
  have hw : Region.wanted o (yielded ops a.tmps) = true := by simp [Region.wanted, hgd]
  rw [if_pos hw]
  obtain ⟨D, h1, h2, h3⟩ := hT
  obtain ⟨w', hrun, r1, r2⟩ := h1.drop keyLaw Tryz.underlying229 (keyOf_string_mk (P := Tryz.prog) Tryz.underlying9 hs) o.type
  unfold Oper.wp
  simp [execOp, hop, resolve, invoke, builtin, hm, hx, hrun, Result.andThen]
  exact h w' (Tally.del h2 h3 r1) r2.grown
structure Made (w0 w : World) (X B1 B2 n1 n2 g np cp : Nat) (f : Int → Rc) (hf : ByteArray → Nat) (m : List Pr) : Prop where
  box : BoxM X (.slice (some ⟨g, 0, none⟩) np cp) B1 B2 w
  lasts : Lasts w0 w B1 n1 f
  tally : Tally w B2 n2 hf
  own : OwnP w w0.heap.size g np cp m
  bel : Below w0.heap.size w0 w
  geX : w0.heap.size ≤ X
  ge1 : w0.heap.size ≤ B1
  ge2 : w0.heap.size ≤ B2
  x1 : X ≠ B1
  x2 : X ≠ B2
  x12 : B1 ≠ B2
  gX : g ≠ X
  g1 : g ≠ B1
  g2 : g ≠ B2
section
variable {w0 w w' : World} {X B1 B2 n1 n2 g np cp : Nat} {f : Int → Rc} {hf : ByteArray → Nat} {m : List Pr}
theorem tally_lt {B n : Nat} (h : Tally w B n hf) : B < w.heap.size := by
  obtain ⟨D, ⟨es, clock, hb, _⟩, _⟩ := h
  exact (Array.getElem?_eq_some_iff.1 hb).1
theorem Made.below (h : Made w0 w X B1 B2 n1 n2 g np cp f hf m) (hb : Below w.heap.size w w') : Made w0 w' X B1 B2 n1 n2 g np cp f hf m :=
  ⟨h.box.below hb, h.lasts.below hb, h.tally.below hb, h.own.below hb, h.bel.trans (hb.mono h.bel.size), h.geX, h.ge1, h.ge2, h.x1, h.x2, h.x12, h.gX, h.g1, h.g2⟩
end

set_option maxRecDepth 100000 in
set_option maxHeartbeats 4000000 in
theorem i_take (X B1 B2 n1 n2 g np cp : Nat) (f : Int → Rc) (hf : ByteArray → Nat) (m : List Pr) (kind tx : Int) (a : Option Addr) (len cap : Nat) (l : List Od) (w0 w : World)
    (h : Made w0 w X B1 B2 n1 n2 g np cp f hf m) (hS : SlO w0 a len l) (ha : Plain a) (ht1 : 1 ≤ tx) (ht2 : tx ≤ 1000000) (hn1 : n1 ≤ 1099511627776) (hn2 : n2 ≤ 1099511627776) (hnp : np ≤ 1000) (hl8 : len ≤ 8) (hf8 : (f tx).2.2.length ≤ 8) (hne : kind = 2 → (f tx).2.2 ≠ []) :
    Calls Tryz.prog 156 #[.pointer (some ⟨X, 0, none⟩), .agg #[.int .i64 kind, .int .i64 tx, .slice a len cap]] w fun e w' =>
      ∃ g' np' cp', e = .returned (.tuple #[]) ∧ Made w0 w' X B1 B2 (n1 + 1) (n2 + len) g' np' cp' (updR f tx (kind, tx, l)) (putK (delK hf (f tx).2.2) l tx.toNat) (if kind = 2 then applyAll m (f tx).2.2 else m) := by
  have htw : (Lit.int .i64 tx).wf = true := WalkArith.wf_i64 (by omega)
  obtain ⟨ops, hops⟩ : ∃ ops, ops = (f tx).2.2 := ⟨_, rfl⟩
  obtain ⟨f', hf'⟩ : ∃ f', f' = updR f tx (kind, tx, l) := ⟨_, rfl⟩
  rw [← hops] at hf8 hne ⊢
  rw [← hf']
  obtain ⟨W, hW⟩ : ∃ W, W = w.alloc (.cells #[.int .i64 kind, .int .i64 tx, .slice a len cap] 133) := ⟨_, rfl⟩
  have hba : Below w.heap.size w W := by rw [hW]; exact (Below.refl _ _).alloc (Nat.le_refl _) _
  have hbx : BoxR w.heap.size kind tx (.slice a len cap) W := by rw [hW]; exact boxR_new _ _ _ _
  have hW1 := h.below hba
  have HW := Hid.mk' hW.symm
  have hsz := h.bel.size
  have hXl := h.box.lt
  have h1l := h.lasts.lt
  have h2l := tally_lt h.tally
  clear hW
  obtain ⟨la, lm, lc, hla, hls, hlk0⟩ := hW1.lasts.look htw
  have hlk : ∀ x : last.On W.heap.size W, (Instr.lookup 228 (.map (some B1)) (.int .i64 tx) false).run Tryz.prog x.w = .ok (.agg #[.int .i64 (f tx).1, .int .i64 (f tx).2.1, .slice la lm lc]) x.w := fun x => hlk0 _ (x.2.block B1 hW1.lasts.lt)
  have hfd := field2
  obtain ⟨x0, x1, x2⟩ := hW1.box.cells
  obtain ⟨d0, d1, d2⟩ := hbx.cells
  have hxl := hW1.box.lt
  have hdl := hbx.lt
  have y1 := last.On.cell x1 hxl
  have z1 := last.On.cell d1 hdl
  have hinh := last.On.inh W.heap.size W
  go_enter Tryz.func156, Tryz.ntmps156
  go_wp2_with fail
  rw [HW.out]
  refine last.wp_region_on W.heap.size (by kernel_rfl) (by kernel_rfl) ?_
  repeat (go_big_quiet_step (fail))
  refine wpQuiet_nil ?_
  intro w2 hw2
  obtain ⟨x2', hw2⟩ := hw2
  have hb2 : Below W.heap.size W w2 := by rw [hw2]; exact x2'.2
  clear hw2 x2' hinh hlk y1 z1 hfd hlk0 x0 x1 x2 d0 d1 d2 HW
  have hM2 := hW1.below hb2
  have hbx2 := hbx.below hb2
  have hXl2 := hM2.box.lt
  have hdl2 := hbx2.lt
  obtain ⟨x0, x1, x2⟩ := hM2.box.cells
  obtain ⟨d0, d1, d2⟩ := hbx2.cells
  have y1 := last.On.cell x1 hXl2
  have z0 := last.On.cell d0 hdl2
  have z1 := last.On.cell d1 hdl2
  have z2 := last.On.cell d2 hdl2
  have hinh := last.On.inh w2.heap.size w2
  go_wp2_with fail
  refine last.wp_region_last_on w2.heap.size 7 _ rfl (by kernel_rfl) (by kernel_rfl) (by kernel_rfl) ?_
  simp only [List.take_succ_cons, List.take_zero]
  repeat (go_big_quiet_step (fail))
  refine wpQuiet_nil ?_
  intro w3 hw3
  obtain ⟨x3', hw3⟩ := hw3
  have hb3 : Below w2.heap.size w2 w3 := by rw [hw3]; exact x3'.2
  clear hw3 x3' hinh y1 z0 z1 z2 x0 x1 x2 d0 d1 d2
  have hM3 := hM2.below hb3
  have hbx3 := hbx2.below hb3
  have hL3 := hM3.lasts
  go_wp2_with (at_mapUpdate; refine wpList_store_last rfl _ _ _ rfl rfl hL3 (by unfold maxLen; omega) rfl htw (r := (kind, tx, l)) rfl ha hS ?_)
  intro w4 hL4 hg4
  rw [← hf'] at hL4
  have hM4 : Made w0 w4 X B1 B2 (n1 + 1) n2 g np cp f' hf m := ⟨hM3.box.grown hg4 (by intro e; exact hM3.x1 (Option.some.inj e)), hL4, hM3.tally.grown hg4 (by intro e; exact hM3.x12 (Option.some.inj e).symm), hM3.own.grown hg4 (by intro e; exact hM3.g1 (Option.some.inj e)), hM3.bel.grown hg4 hM3.bel.size (fun j e => by cases e; exact hM3.ge1), hM3.geX, hM3.ge1, hM3.ge2, hM3.x1, hM3.x2, hM3.x12, hM3.gX, hM3.g1, hM3.g2⟩
  have hbx4 := hbx3.grown hg4 (by intro e; have := Option.some.inj e; omega)
  rw [← hops] at hls
  have hlo := hls.1
  subst hlo
  have hsmO := hls.2.2.1
  clear hM3 hM2 hW1 h hbx3 hbx2 hbx hL3 hL4 hg4 hb3 hb2 hba hops hf'
  go_wp2_with fail
  go_loopw [26] (fun i wr => ∃ k : Nat, k ≤ ops.length ∧ i = .int .i64 (k : Int) ∧ Made w0 wr X B1 B2 (n1 + 1) n2 g np cp f' (delK hf (ops.take k)) m ∧ BoxR w.heap.size kind tx (.slice a len cap) wr) (fun i _ => ops.length - (intOf i).toNat)
  case atStart => exact ⟨0, Nat.zero_le _, rfl, hM4, hbx4⟩
  case round =>
    clear hM4 hbx4
    obtain ⟨k, hk, rfl, hM, hbx⟩ := hrel
    by_cases hlt : k < ops.length
    · obtain ⟨b, off, hb, _⟩ := hls.2.2.2 (by omega)
      subst hb
      obtain ⟨c0, c1, c2⟩ := (hls.below hM.bel).cells k hlt
      have hki : (k : Int) < (ops.length : Int) := by omega
      have hks := (hsmO _ (List.getElem_mem hlt)).2.1
      have HST : Hid (delK hf (ops.take (k + 1)) = fun s => if s = ops[k].2.1 then 0 else delK hf (ops.take k) s) := by show _ = _; rw [List.take_succ_eq_append_getElem hlt, delK_snoc]
      generalize ops[k] = p at *
      obtain ⟨V, hV⟩ : ∃ V, V = wr.alloc (.cells #[.int .i64 p.1, .string p.2.1, .string p.2.2] 126) := ⟨_, rfl⟩
      have hbv : Below wr.heap.size wr V := by rw [hV]; exact (Below.refl _ _).alloc (Nat.le_refl _) _
      have hMV := hM.below hbv
      have hbxV := hbx.below hbv
      have o1 : V.cell? ⟨wr.heap.size, 1, none⟩ = some (.string p.2.1) := by rw [hV]; simp
      have hVl : wr.heap.size < V.heap.size := by rw [hV]; simp
      obtain ⟨x0, x1, x2⟩ := hMV.box.cells
      have x2d : V.drew.cell? ⟨X, 2, none⟩ = some (.map (some B2)) := x2
      have o1d : V.drew.cell? ⟨wr.heap.size, 1, none⟩ = some (.string p.2.1) := o1
      have HV := Hid.mk' hV.symm
      have hM5 := hMV.below ((Below.refl _ _).drew)
      have hbx5 := hbxV.below ((Below.refl _ _).drew)
      have hT5 := hM5.tally
      have hwr2 := hM.box.lt
      have h2r := tally_lt hM.tally
      clear hV hM hbx x0 x1 o1 x2 hbv hMV hbxV
      go_wp2_with fail
      rw [HV.out]
      clear HV c0 c1 c2
      go_region_held3 (fun w' => w'.cell? ⟨X, 2, none⟩ = some (.map (some B2)) ∧ w'.cell? ⟨wr.heap.size, 1, none⟩ = some (.string p.2.1))
        (first | (exact ⟨x2d, o1d⟩) | (with_reducible assumption) | (exact ⟨hg6.cell x2d (fun e => hM5.x2 (Option.some.inj e)), hg6.cell o1d (fun e => Nat.lt_irrefl _ ((Option.some.inj e : wr.heap.size = B2) ▸ h2r))⟩))
        (first | (refine step_delete rfl (.tmp 33) (.tmp 35) rfl rfl hT5 hks rfl ?_; intro w6 hT6 hg6))
      rw [← HST.out] at hT6
      have hM6 : Made w0 w6 X B1 B2 (n1 + 1) n2 g np cp f' (delK hf (ops.take (k + 1))) m := ⟨hM5.box.grown hg6 (by intro e; exact hM5.x2 (Option.some.inj e)), hM5.lasts.grown hg6 (by intro e; exact hM5.x12 (Option.some.inj e)), hT6, hM5.own.grown hg6 (by intro e; exact hM5.g2 (Option.some.inj e)), hM5.bel.grown hg6 hM5.bel.size (fun j e => by cases e; exact hM5.ge2), hM5.geX, hM5.ge1, hM5.ge2, hM5.x1, hM5.x2, hM5.x12, hM5.gX, hM5.g1, hM5.g2⟩
      have hbx6 := hbx5.grown hg6 (by intro e; have := Option.some.inj e; omega)
      clear hg6 hT6 hM5 hbx5 hT5 x2d o1d
      go_wp2_with fail
      go_roundw
      case rel => exact ⟨k + 1, by omega, by go_num, hM6, hbx6⟩
      case measure => simp [intOf]; omega
    · have HE : Hid (ops.take k = ops) := List.take_of_length_le (by omega)
      rw [HE.out] at hM
      have hll := hS.1
      have hsmL := hS.2.2.1
      obtain ⟨d0, d1, d2⟩ := hbx.cells
      generalize hh1 : delK hf ops = h1 at *
      have hex : ¬ (k : Int) < (ops.length : Int) := by omega
      clear HE hk
      go_wp2_with fail
      clear hex hlt
      go_loopw [40] (fun i wr => ∃ k : Nat, k ≤ l.length ∧ i = .int .i64 (k : Int) ∧ Made w0 wr X B1 B2 (n1 + 1) (n2 + k) g np cp f' (putK h1 (l.take k) tx.toNat) m ∧ BoxR w.heap.size kind tx (.slice a len cap) wr) (fun i _ => l.length - (intOf i).toNat)
      case atStart => exact ⟨0, Nat.zero_le _, rfl, hM, hbx⟩
      case round =>
        clear hM hbx d0 d1 d2
        obtain ⟨k, hk, rfl, hM, hbx⟩ := hrel
        by_cases hlt : k < l.length
        · obtain ⟨b, off, hb, _⟩ := hS.2.2.2 (by omega)
          subst hb
          obtain ⟨c0, c1, c2⟩ := (hS.below hM.bel).cells k hlt
          have hki : (k : Int) < (len : Int) := by omega
          have hks := (hsmL _ (List.getElem_mem hlt)).2.1
          have HST : Hid (∀ s, putK h1 (l.take (k + 1)) tx.toNat s = if s = l[k].2.1 then tx.toNat else putK h1 (l.take k) tx.toNat s) := fun s => by rw [List.take_succ_eq_append_getElem hlt, putK_snoc]
          generalize l[k] = p at *
          obtain ⟨V, hV⟩ : ∃ V, V = wr.alloc (.cells #[.int .i64 p.1, .string p.2.1, .string p.2.2] 126) := ⟨_, rfl⟩
          have hbv : Below wr.heap.size wr V := by rw [hV]; exact (Below.refl _ _).alloc (Nat.le_refl _) _
          have hMV := hM.below hbv
          have hbxV := hbx.below hbv
          have o1 : V.cell? ⟨wr.heap.size, 1, none⟩ = some (.string p.2.1) := by rw [hV]; simp
          have hVl : wr.heap.size < V.heap.size := by rw [hV]; simp
          obtain ⟨x0, x1, x2⟩ := hMV.box.cells
          obtain ⟨d0, d1, d2⟩ := hbxV.cells
          have y2 := last.On.cell x2 hMV.box.lt
          have z1 := last.On.cell o1 hVl
          have t1 := last.On.cell d1 hbxV.lt
          have hinh := last.On.inh V.heap.size V
          have HV := Hid.mk' hV.symm
          have hkk := keyOf_string_mk (P := Tryz.prog) Tryz.underlying9 hks
          clear hV hM hbx x0 x1 x2 o1 hbv d0 d1 d2
          go_wp2_with fail
          rw [HV.out]
          refine last.wp_region_last_on V.heap.size 8 _ rfl (by kernel_rfl) (by kernel_rfl) (by kernel_rfl) ?_
          simp only [List.take_succ_cons, List.take_zero]
          repeat (go_big_quiet_step (fail))
          refine wpQuiet_nil ?_
          intro w5 hw5
          obtain ⟨x5', hw5⟩ := hw5
          have hb5 : Below V.heap.size V w5 := by rw [hw5]; exact x5'.2
          clear hw5 x5' hinh y2 z1 t1 HV c0 c1 c2
          have hM5 := hMV.below hb5
          have hbx5 := hbxV.below hb5
          obtain ⟨D, hown, hD, hat0⟩ := hM5.tally
          go_wp2_with (at_mapUpdate; refine wpList_mapUpdate_own _ rfl _ _ _ 229 rfl 9 3 keyLaw Tryz.underlying229 _ B2 (n2 + k) D rfl hown (by unfold maxLen; omega) _ _ _ rfl rfl hkk _ [] (plainElem_int Tryz.underlying3 htw) ?_)
          intro w6 hown6 hg6
          have hT6 : Tally w6 B2 (n2 + (k + 1)) (putK h1 (l.take (k + 1)) tx.toNat) := Tally.put hD hat0 (by rw [HST.out, if_pos rfl]; omega) (fun s hs => by rw [HST.out, if_neg hs]) hown6
          have hM6 : Made w0 w6 X B1 B2 (n1 + 1) (n2 + (k + 1)) g np cp f' (putK h1 (l.take (k + 1)) tx.toNat) m := ⟨hM5.box.grown hg6 (by intro e; exact hM5.x2 (Option.some.inj e)), hM5.lasts.grown hg6 (by intro e; exact hM5.x12 (Option.some.inj e)), hT6, hM5.own.grown hg6 (by intro e; exact hM5.g2 (Option.some.inj e)), hM5.bel.grown hg6 hM5.bel.size (fun j e => by cases e; exact hM5.ge2), hM5.geX, hM5.ge1, hM5.ge2, hM5.x1, hM5.x2, hM5.x12, hM5.gX, hM5.g1, hM5.g2⟩
          have hbx6 := hbx5.grown hg6 (by intro e; have := Option.some.inj e; omega)
          clear hown hown6 hg6 hT6 hM5 hbx5 hMV hbxV hD hat0
          go_wp2_with fail
          go_roundw
          case rel => exact ⟨k + 1, by omega, by go_num, hM6, hbx6⟩
          case measure => simp [intOf]; omega
        · have HE : Hid (l.take k = l) := List.take_of_length_le (by omega)
          rw [HE.out] at hM
          have hkL : k = len := by omega
          subst hkL
          obtain ⟨d0, d1, d2⟩ := hbx.cells
          by_cases hk2 : kind = 2
          · have hpo := hne hk2
            have hlp : 0 < ops.length := List.length_pos_iff.2 hpo
            obtain ⟨b2, off2, hb2, _⟩ := hls.2.2.2 hlp
            subst hb2
            have HAP := Hid.mk' (impl_apply g 0 np cp m b2 off2 ops.length lc ops wr hM.own.sl (hls.below hM.bel) hM.own.cases.1 (by omega))
            obtain ⟨x0, x1, x2⟩ := hM.box.cells
            subst hk2
            have hXr := hM.box.lt
            have h1r := hM.lasts.lt
            have h2r := tally_lt hM.tally
            go_wp2_with fail
            refine HAP.out.mono ?_
            rintro e w7 ⟨g7, n7, cp7, rfl, hO7, hb7⟩
            have hM7 := hM.below hb7
            obtain ⟨S1, S2⟩ := boxM_set hM7.box (.slice (some ⟨g7, 0, none⟩) n7 cp7)
            have hg7 := hO7.lt
            have HM8 : Hid (Made w0 (w7.setCell ⟨X, 0, none⟩ (.slice (some ⟨g7, 0, none⟩) n7 cp7)) X B1 B2 (n1 + 1) (n2 + k) g7 n7 cp7 f' (putK h1 l tx.toNat) (applyAll m ops)) := ⟨S1, hM7.lasts.grown S2 (by intro e; exact hM7.x1 (Option.some.inj e).symm), hM7.tally.grown S2 (by intro e; exact hM7.x2 (Option.some.inj e).symm), (hO7.mono hM.bel.size).grown S2 (by intro e; have := Option.some.inj e; omega), hM7.bel.grown S2 hM7.bel.size (fun j e => by cases e; exact hM7.geX), hM7.geX, hM7.ge1, hM7.ge2, hM7.x1, hM7.x2, hM7.x12, by omega, by omega, by omega⟩
            obtain ⟨q0, q1, q2⟩ := hM7.box.cells
            have fq := hM7.box.fz 0
            clear HAP hM hM7 S1 S2 hO7 hb7
            go_wp2_with fail
            refine bodyPost_end (v := .tuple #[]) ?_ rfl ⟨rfl, g7, n7, cp7, HM8.out⟩
            simp [results, Tryz.results156, go_sem]
          · have hkb : (kind == 2) = false := beq_eq_false_iff_ne.2 hk2
            go_wp2_with fail
            refine bodyPost_end (v := .tuple #[]) ?_ rfl ⟨rfl, g, np, cp, hM⟩
            simp [results, Tryz.results156, go_sem]
end Go.Proofs.YtijplooogplccaaGreat.recs

namespace Go.Proofs.YtijplooogplccaaGreat.recs
open Go Go.RowKit Go.Proofs.YtijplooogplccaaGreat.base Go.Proofs.YtijplooogplccaaGreat.pairs Go.Proofs.YtijplooogplccaaGreat.ords
set_option linter.unusedVariables false
set_option linter.unusedSimpArgs false

theorem boxR_setW {X : Nat} {k t : Int} {v : Value} {w : World} (h : BoxR X k t v w) (a b c : Value) :
    ((((w.setCell ⟨X, 0, none⟩ a).setCell ⟨X, 1, none⟩ b).setCell ⟨X, 2, none⟩ c).heap[X]? = some (.cells #[a, b, c] 133 (0, 0))) ∧ w.grownBy (((w.setCell ⟨X, 0, none⟩ a).setCell ⟨X, 1, none⟩ b).setCell ⟨X, 2, none⟩ c) (some X) := by
  have h0 : w.heap[X]? = some (.cells #[.int .i64 k, .int .i64 t, v] 133 (0, 0)) := h
  have s0 := set_cur h0 0 a
  have s1 := set_cur s0.1 1 b
  have s2 := set_cur s1.1 2 c
  exact ⟨s2.1, grownBy_trans (grownBy_trans s0.2 s1.2) s2.2⟩
theorem BoxR.fz {X : Nat} {k t : Int} {v : Value} {w : World} (h : BoxR X k t v w) (j : Nat) : w.frozen? ⟨X, j, none⟩ = false := by unfold BoxR at h; simp [World.frozen?, h]
theorem run_copy_ord (w : World) (g L dCap : Nat) (a : Option Addr) (sCap : Nat) (cur : Array Value) (l : List Od) (hl : l.length = L) (ty : TypeId)
    (hg : w.heap[g]? = some (.cells cur 126 (0, 0))) (hc : cur.size = L * 3) (hsrc : SlO w a L l) :
    (Builtin.copy_ #[98, 98] ty #[.slice (some ⟨g, 0, none⟩) L dCap, .slice a L sCap]).run Tryz.prog w = .ok (goInt L) (w.setRow g (ordVals l).toArray) := by
  obtain ⟨i0, hi, hz0, hz1, hz2⟩ := info_parts infoO
  by_cases h0 : L = 0
  · subst h0
    have e1 : l = [] := List.eq_nil_of_length_eq_zero hl
    subst e1
    have e2 : cur = #[] := Array.eq_empty_of_size_eq_zero (by omega)
    subst e2
    have hs0 : w.setRow g (ordVals []).toArray = w := setRow_self w g #[] _ (0, 0) hg
    rw [hs0]
    cases a with
    | none => simp [Builtin.copy_, run_underlying Tryz.underlying98, Builtin.lenOf, Builtin.firstCells, sizeOf, typeInfo, hi, hz1, storeCells]
    | some ad => simp [Builtin.copy_, run_underlying Tryz.underlying98, Builtin.lenOf, Builtin.firstCells, sizeOf, typeInfo, hi, hz1, storeCells, loadCells, loadCellsFrom]
  · obtain ⟨b, off, ha, _⟩ := hsrc.2.2.2 (by omega)
    subst ha
    have hcs := cells_ords hsrc.cells
    have hld := run_loadCells_list (P := Tryz.prog) w ⟨b, off, none⟩ (ordVals l) hcs
    have hst := run_storeCells_at Tryz.prog g 0 126 (ordVals l) 0 cur w hg (by rw [ordVals_length]; omega) (ordVals_oneCell l)
    have hdr : cur.toList.drop (ordVals l).length = [] := List.drop_eq_nil_of_le (by rw [ordVals_length]; simp; omega)
    simp only [Nat.zero_add, List.take_zero, List.nil_append, hdr, List.append_nil] at hst
    rw [ordVals_length, hl] at hld
    simp [Builtin.copy_, run_underlying Tryz.underlying98, Builtin.lenOf, Builtin.firstCells, sizeOf, typeInfo, hi, hz1, hld, hst]
theorem wpList_copy_ord {w : World} {ops : Array Oper} {rest : List Oper} {o : Oper} {a : Act} {Q : Exit → Act → World → Prop} (hgd : o.guard = none) (d s : Operand)
    (ho : o.op = .call { callee := .builtin .copy, args := #[d, s], argTypes := #[98, 98] })
    (g L dCap : Nat) (ad : Option Addr) (sCap : Nat) (cur : Array Value) (l : List Od) (hl : l.length = L) (hd : a.eval d = .slice (some ⟨g, 0, none⟩) L dCap) (hs : a.eval s = .slice ad L sCap)
    (hg : w.heap[g]? = some (.cells cur 126 (0, 0))) (hc : cur.size = L * 3) (hsrc : SlO w ad L l)
    (h : ∀ w', w'.heap[g]? = some (.cells (ordVals l).toArray 126 (0, 0)) → w.grownBy w' (some g) → wpList Tryz.prog ops Q rest (a.put o.dst (goInt L)) w') : wpList Tryz.prog ops Q (o :: rest) a w := by
  refine wpList_plain hgd fun K hK => ?_
  have hrun := run_copy_ord w g L dCap ad sCap cur l hl o.type hg hc hsrc
  unfold Oper.wp
  simp [execOp, ho, resolve, invoke, builtin, hd, hs, hrun, Result.andThen]
  exact hK _ _ (h _ (setRow_heap w g cur _ _ (0, 0) hg) ⟨rfl, rfl, rfl, by simp [World.setRow], fun k hk hne => setRow_other w g k _ (by intro e; exact hne (by rw [e]))⟩)
theorem ownO_of_row {w : World} {base g n : Nat} {l : List Od} (hn : l.length = n) (hsm : ∀ p ∈ l, smallO p) (hm : n ≤ maxLen) (hb : base ≤ g) (h : w.heap[g]? = some (.cells (ordVals l).toArray 126 (0, 0))) : OwnO w base g n n l :=
  ⟨hn, hsm, by rw [ordVals_length]; omega, .inr ⟨g, n, _, rfl, hb, h, Nat.le_refl _, hm, by simp [ordVals_length, hn], by rw [List.take_of_length_le (by simp [ordVals_length]; omega)]⟩⟩

set_option maxRecDepth 100000 in
set_option maxHeartbeats 2000000 in
theorem i_ownRec (kind tx : Int) (a : Option Addr) (len cap : Nat) (l : List Od) (w : World) (h : SlO w a len l) (hsz : len ≤ 1099511627776) :
    Calls Tryz.prog 165 #[.agg #[.int .i64 kind, .int .i64 tx, .slice a len cap]] w fun e w' =>
      ∃ g, e = .returned (.agg #[.int .i64 kind, .int .i64 tx, .slice (some ⟨g, 0, none⟩) len len]) ∧ OwnO w' w.heap.size g len len l ∧ Below w.heap.size w w' := by
  obtain ⟨i0, hi, hz0, hz1, hz2⟩ := info_parts infoO
  obtain ⟨W, hW⟩ : ∃ W, W = (w.alloc (.cells #[.int .i64 kind, .int .i64 tx, .slice a len cap] 133)).alloc (.cells #[.int .i64 0, .int .i64 0, .slice none 0 0] 133) := ⟨_, rfl⟩
  have hba : Below w.heap.size w (w.alloc (.cells #[.int .i64 kind, .int .i64 tx, .slice a len cap] 133)) := (Below.refl _ _).alloc (Nat.le_refl _) _
  have hB : Below w.heap.size w W := by rw [hW]; exact hba.alloc hba.size _
  have hT : BoxR w.heap.size kind tx (.slice a len cap) W := by rw [hW]; exact (boxR_new w _ _ _).below ((Below.refl _ _).alloc (Nat.le_refl _) _)
  have hR : BoxR (w.heap.size + 1) 0 0 (.slice none 0 0) W := by
    rw [hW]
    have := boxR_new (w.alloc (.cells #[.int .i64 kind, .int .i64 tx, .slice a len cap] 133)) 0 0 (.slice none 0 0)
    rwa [show (w.alloc (.cells #[.int .i64 kind, .int .i64 tx, .slice a len cap] 133)).heap.size = w.heap.size + 1 by simp] at this
  have HW := Hid.mk' hW.symm
  have hl := h.1
  have hsm := h.2.2.1
  have hlm := h.2.1
  have hll : (len : Int) ≤ 1099511627776 := by omega
  have hWz : W.heap.size = w.heap.size + 1 + 1 := by rw [hW]; simp
  have hBz : w.heap.size ≤ ((w.alloc (.cells #[.int .i64 kind, .int .i64 tx, .slice a len cap] 133)).alloc (.cells #[.int .i64 0, .int .i64 0, .slice none 0 0] 133)).heap.size := by rw [← hW]; exact hB.size
  obtain ⟨d0, d1, d2⟩ := hT.cells
  rw [hW] at d0 d1 d2
  have HWZ := Hid.mk' hWz
  clear hW hWz
  go_enter Tryz.func165, Tryz.ntmps165
  go_wp2_with (at_make; refine wpList_make_full _ rfl _ _ 98 rfl w.heap.size 126 i0 (.agg #[.int .i64 0, .string ⟨#[]⟩, .string ⟨#[]⟩]) 3 Tryz.underlying98 hi hz0 hz1 _ _ _ _ len rfl rfl rfl rfl ?b2 ?b3 ?b4 ?_)
  case b2 => rw [hz2]; omega
  case b3 => exact hlm
  case b4 => exact hBz
  intro w2 hown2 hgrow2
  rw [HW.out] at hgrow2
  have hb2 : Below W.heap.size W w2 := (Below.refl _ _).grown hgrow2 (Nat.le_refl _) (fun k e => by cases e)
  have hT2 := hT.below hb2
  have hR2 := hR.below hb2
  have hB2 := hB.trans (hb2.mono hB.size)
  obtain ⟨cur, hgc, hcs⟩ : ∃ cur : Array Value, w2.heap[w.heap.size + 1 + 1]? = some (.cells cur 126 (0, 0)) ∧ cur.size = len * 3 := by
    rcases hown2.2 with ⟨h', _⟩ | ⟨g', cap', cur, h', _, hg, _, _, hs, _⟩
    · simp at h'
    · simp at h'
      obtain ⟨rfl, rfl⟩ := h'
      exact ⟨cur, hg, hs⟩
  have hS2 := h.below hB2
  clear d0 d1 d2 hown2 hgrow2 hBz
  obtain ⟨d0, d1, d2⟩ := hT2.cells
  go_wp2_with (refine wpList_copy_ord rfl (.tmp 8) (.tmp 10) rfl (w.heap.size + 1 + 1) len _ _ _ cur l hl rfl rfl hgc hcs hS2 ?_)
  intro w3 hrow3 hg3
  have hT3 := hT2.grown hg3 (by simp; omega)
  have hR3 := hR2.grown hg3 (by simp)
  have hB3 := hB2.grown hg3 hB2.size (fun k e => by cases e; omega)
  have hO3 : OwnO w3 w.heap.size (w.heap.size + 1 + 1) len len l := ownO_of_row hl hsm hlm (by omega) hrow3
  clear d0 d1 d2
  obtain ⟨d0, d1, d2⟩ := hT3.cells
  obtain ⟨r0, r1, r2⟩ := hR3.cells
  have f0 := hR3.fz 0
  have f1 := hR3.fz 1
  have f2 := hR3.fz 2
  obtain ⟨z, zg⟩ := boxR_setW hR3 (.int .i64 kind) (.int .i64 tx) (.slice (some ⟨w.heap.size + 1 + 1, 0, none⟩) len len)
  have hz : BoxR (w.heap.size + 1) kind tx (.slice (some ⟨w.heap.size + 1 + 1, 0, none⟩) len len) _ := z
  have hzc := hz.cells
  have HBz := Hid.mk' (hB3.grown zg hB3.size (fun j e => by cases e; omega))
  have HOz := Hid.mk' (hO3.grown zg (by simp))
  clear hrow3 hg3 hgc
  go_wp2_with fail
  refine bodyPost_ret (v := .agg #[.int .i64 kind, .int .i64 tx, .slice (some ⟨w.heap.size + 1 + 1, 0, none⟩) len len]) ?_ rfl ⟨_, rfl, HOz.out, HBz.out⟩
  simp [results, Tryz.results165, go_sem, hzc.1, hzc.2.1, hzc.2.2]
theorem infoRW : (Tryz.prog.info? 133).map (fun i => (i.zero, i.size, i.bytes)) = some (some (.agg #[.int .i64 0, .int .i64 0, .slice none 0 0]), 3, 40) := by kernel_rfl
theorem rec_cellsW (w : World) (a b : Int) (v : Value) (t : TypeId) : ∀ j u, ([.int .i64 a, .int .i64 b, v] : List Value)[j]? = some u → (w.alloc (.cells #[.int .i64 a, .int .i64 b, v] t)).cell? ((⟨w.heap.size, 0, none⟩ : Addr).add j) = some u := cells_three w (.int .i64 a) (.int .i64 b) v t
theorem rec_oneW (a b : Int) {v : Value} (h : v.oneCell' = true) : ∀ u ∈ ([.int .i64 a, .int .i64 b, v] : List Value), u.oneCell' = true := by
  intro u hu
  simp at hu
  rcases hu with rfl | rfl | rfl
  · rfl
  · rfl
  · exact h
def stillHeld (f : Int → Rc) (l : List Rc) : List Rc := l.filter fun r => decide ((f r.2.1).1 = 1)
theorem still_snoc (f : Int → Rc) (l : List Rc) (k : Nat) (h : k < l.length) : stillHeld f (l.take (k + 1)) = if (f l[k].2.1).1 = 1 then stillHeld f (l.take k) ++ [l[k]] else stillHeld f (l.take k) := by
  unfold stillHeld
  rw [List.take_succ_eq_append_getElem h, List.filter_append]
  by_cases e : (f l[k].2.1).1 = 1
  · rw [if_pos e]; simp [e]
  · rw [if_neg e]; simp [e]
theorem still_le (f : Int → Rc) (l : List Rc) : (stillHeld f l).length ≤ l.length := List.length_filter_le _ _

set_option maxRecDepth 100000 in
set_option maxHeartbeats 4000000 in
theorem i_heldOf (X B1 B2 n1 : Nat) (pv : Value) (f : Int → Rc) (a : Option Addr) (len cap : Nat) (l : List Rc) (w0 w : World) (hM : BoxM X pv B1 B2 w) (hL : Lasts w0 w B1 n1 f) (h : SlR w a len l) (hsz : len ≤ 1099511627776) (hops : ∀ r ∈ l, r.2.2.length ≤ 1099511627776) :
    Calls Tryz.prog 157 #[.pointer (some ⟨X, 0, none⟩), .slice a len cap] w fun e w' =>
      ∃ g cp hs, e = .returned (.slice (some ⟨g, 0, none⟩) (stillHeld f l).length cp) ∧ OwnR w' w.heap.size (.slice (some ⟨g, 0, none⟩) (stillHeld f l).length cp) (stillHeld f l) hs ∧ Below w.heap.size w w' := by
  obtain ⟨i0, hi, hz0, hz1, hz2⟩ := info_parts infoRW
  obtain ⟨hl, hm, hsm, hc⟩ := id h
  subst hl
  unfold maxLen at hm
  have hba : Below w.heap.size w (w.alloc (.cells #[] 133)) := (Below.refl _ _).alloc (Nat.le_refl _) _
  have hOm := ownR_made w w.heap.size (Nat.le_refl _)
  go_enter Tryz.func157, Tryz.ntmps157
  go_wp2_with (at_builtin; fail)
  go_loopw [5, 11] (fun ov iv wr => ∃ (k g cp : Nat) (hs : List Value), k ≤ l.length ∧ ov = .slice (some ⟨g, 0, none⟩) (stillHeld f (l.take k)).length cp ∧ iv = .int .i64 (k : Int) ∧ OwnR wr w.heap.size (.slice (some ⟨g, 0, none⟩) (stillHeld f (l.take k)).length cp) (stillHeld f (l.take k)) hs ∧ Below w.heap.size w wr) (fun _ iv _ => l.length - (intOf iv).toNat)
  case atStart => exact ⟨0, w.heap.size, 0, [], Nat.zero_le _, rfl, rfl, hOm, hba⟩
  case round =>
    clear hOm hba
    obtain ⟨k, g, cp, hs, hk, rfl, rfl, hO, hB⟩ := hrel
    have hbw := hB.size
    by_cases hlt : k < l.length
    · obtain ⟨b, off, ha, _⟩ := hc (by omega)
      subst ha
      obtain ⟨c0, c1, pa, pl, pc, c2, hSo, _⟩ := (h.at k hlt).below hB
      have hki : (k : Int) < (l.length : Int) := by omega
      have hsr := hsm _ (List.getElem_mem hlt)
      have htw : (Lit.int .i64 l[k].2.1).wf = true := hsr.2.1
      have hol := hops _ (List.getElem_mem hlt)
      have HST := Hid.mk' (still_snoc f l k hlt)
      have hsl := still_le f (l.take k)
      have htk : (l.take k).length ≤ k := List.length_take_le _ _
      generalize l[k] = r at *
      generalize stillHeld f (l.take k) = acc at *
      obtain ⟨W, hW⟩ : ∃ W, W = wr.alloc (.cells #[.int .i64 r.1, .int .i64 r.2.1, .slice pa pl pc] 133) := ⟨_, rfl⟩
      have hba : Below wr.heap.size wr W := by rw [hW]; exact (Below.refl _ _).alloc (Nat.le_refl _) _
      have hbx : BoxR wr.heap.size r.1 r.2.1 (.slice pa pl pc) W := by rw [hW]; exact boxR_new _ _ _ _
      have hBW := hB.trans (hba.mono hbw)
      have hMW := hM.below hBW
      have hLW := hL.below hBW
      have hOW := hO.below hba
      obtain ⟨la, lm, lc, hla, hls, hlk0⟩ := hLW.look htw
      have hlk : ∀ x : last.On W.heap.size W, (Instr.lookup 228 (.map (some B1)) (.int .i64 r.2.1) false).run Tryz.prog x.w = .ok (.agg #[.int .i64 (f r.2.1).1, .int .i64 (f r.2.1).2.1, .slice la lm lc]) x.w := fun x => hlk0 _ (x.2.block B1 hLW.lt)
      have hfd := field0
      obtain ⟨x0, x1, x2⟩ := hMW.cells
      obtain ⟨d0, d1, d2⟩ := hbx.cells
      have y1 := last.On.cell x1 hMW.lt
      have z1 := last.On.cell d1 hbx.lt
      have hinh := last.On.inh W.heap.size W
      have HW := Hid.mk' hW.symm
      have hSW := hSo.below hba
      clear hW hlk0 hO x0 x1 x2 d0 d1 d2 hSo
      by_cases hh : (f r.2.1).1 = 1
      · have hhb : ((f r.2.1).1 == 1) = true := by rw [hh]; rfl
        rw [if_pos hh] at HST
        go_wp2_with (at_builtin; fail)
        rw [HW.out]
        refine last.wp_region_on W.heap.size (by kernel_rfl) (by kernel_rfl) ?_
        repeat (go_big_quiet_step (fail))
        refine wpQuiet_nil ?_
        intro w2 hw2
        obtain ⟨x2', hw2⟩ := hw2
        have hb2 : Below W.heap.size W w2 := by rw [hw2]; exact x2'.2
        clear hw2 x2' hinh hlk y1 z1 hfd HW c0 c1 c2
        have hO2 := hOW.below hb2
        have hB2 := hBW.trans (hb2.mono hBW.size)
        obtain ⟨d0, d1, d2⟩ := (hbx.below hb2).cells
        have hpl := hSW.1
        have HOR := Hid.mk' (i_ownRec r.1 r.2.1 pa pl pc r.2.2 w2 (hSW.below hb2) (by omega))
        go_wp2_with (at_builtin; fail)
        refine HOR.out.mono ?_
        rintro e w3 ⟨g3, rfl, hO3, hb3⟩
        have hV3 := (ownV_of hO3).mono (base' := w.heap.size) hB2.size
        have hOa := hO2.below hb3
        have hB3 := hB2.trans (hb3.mono hB2.size)
        have hg3 := hO3.lt
        have hout : ∀ j, (Value.slice (some ⟨g3, 0, none⟩) pl pl).ownBlock = some j → ¬ BlkR (.slice (some ⟨g, 0, none⟩) acc.length cp) hs j := fun j hj hb => by
          have e1 : g3 = j := by simpa [Value.ownBlock] using hj
          have := (hO2.lt j hb).2
          omega
        have HOU := Hid.mk' hout
        have hbn : Below w3.heap.size w3 (w3.alloc (.cells #[.int .i64 r.1, .int .i64 r.2.1, .slice (some ⟨g3, 0, none⟩) pl pl] 133)) := (Below.refl _ _).alloc (Nat.le_refl _) _
        have hO4 := hOa.below hbn
        have hV4 := hV3.below hbn
        have hB4 := hB3.trans (hbn.mono hB3.size)
        have HOC := Hid.mk' (rec_cellsW w3 r.1 r.2.1 (.slice (some ⟨g3, 0, none⟩) pl pl) 133)
        have HON := Hid.mk' (rec_oneW r.1 r.2.1 hV3.one)
        have hc3 : acc.length + 1 ≤ maxLen := by unfold maxLen; omega
        have hc4 : (acc.length + 1) * 40 ≤ 140737488355328 := by omega
        clear HOR hO3 hb3 hV3 hOa hB3 hbn hout hO2 hB2 d0 d1 d2
        go_wp2_with (at_builtin; refine wpList_append_own _ rfl (.tmp 24) (.tmp 27) 52 rfl w.heap.size 133 i0 (.agg #[.int .i64 0, .int .i64 0, .slice none 0 0]) 3 40 Tryz.underlying52 hi hz0 hz1 hz2 rfl (by decide) _ _ _ rfl hO4.row ⟨w3.heap.size, 0, none⟩ 1 1 _ rfl rfl HOC.out HON.out hc3 hc4 hB4.size ?_)
        intro v5 w5 hown5 hgrow5 hnn5
        have hnn' : ¬ v5 = .slice none 0 0 := by simpa using hnn5
        have hO5 := hO4.snoc hV4 hsr HOU.out hown5 hgrow5
        have hB5 : Below w.heap.size w w5 := hB4.grown hgrow5 hB4.size (fun j e => (hO4.row.lt j e).1)
        rw [← HST.out] at hO5
        rcases hO5.shape with ⟨hv5, _⟩ | ⟨g5, cp5, hv5, _⟩
        · exact absurd hv5 hnn'
        · subst hv5
          have HO5 := Hid.mk' hO5
          clear hown5 hgrow5 hnn5 hnn' hO5 hO4 hB4 hV4 HOC HON HOU
          go_wp2_with (at_builtin; fail)
          go_roundw
          case rel => exact ⟨k + 1, g5, cp5, _, by omega, by rw [HST.out], by go_num, HO5.out, hB5⟩
          case measure => simp [intOf]; omega
      · have hhb : ((f r.2.1).1 == 1) = false := beq_eq_false_iff_ne.2 hh
        rw [if_neg hh] at HST
        go_wp2_with (at_builtin; fail)
        rw [HW.out]
        refine last.wp_region_on W.heap.size (by kernel_rfl) (by kernel_rfl) ?_
        repeat (go_big_quiet_step (fail))
        refine wpQuiet_nil ?_
        intro w2 hw2
        obtain ⟨x2', hw2⟩ := hw2
        have hb2 : Below W.heap.size W w2 := by rw [hw2]; exact x2'.2
        clear hw2 x2' hinh hlk y1 z1 hfd HW c0 c1 c2
        have hO2 := hOW.below hb2
        have hB2 := hBW.trans (hb2.mono hBW.size)
        rw [← HST.out] at hO2
        have hLN : Hid (acc.length = (stillHeld f (l.take (k + 1))).length) := by show _ = _; rw [HST.out]
        go_wp2_with (at_builtin; fail)
        go_roundw
        case rel => exact ⟨k + 1, g, cp, hs, by omega, by rw [hLN.out], by go_num, hO2, hB2⟩
        case measure => simp [intOf]; omega
    · have HE : Hid (l.take k = l) := List.take_of_length_le (by omega)
      have hLN : Hid (stillHeld f (l.take k) = stillHeld f l) := by show _ = _; rw [HE.out]
      have hex : ¬ (k : Int) < (l.length : Int) := by omega
      rw [hLN.out] at hO ⊢
      go_wp2_with (at_builtin; fail)
      go_ret
      exact ⟨g, cp, rfl, ⟨hs, hO⟩, hB⟩
end Go.Proofs.YtijplooogplccaaGreat.recs
