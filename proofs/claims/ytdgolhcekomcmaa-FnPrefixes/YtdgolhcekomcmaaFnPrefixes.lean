/- The statement FnPrefixesSaid: at every code FnPrefixes answers true, and the code reads afterwards as before. No condition besides the row's own. -/
import Derived.Test.YtdgolhcekomcmaaRows
import Derived.Test.YtdgolhcekomcmaaBund9be
import Derived.Test.YtdgolhcekomcmaaBund9bf
import Derived.ProofKit
import Derived.OpenShut
import Derived.ShutString
import Derived.ChangeOld
import Derived.Below
namespace Go.Proofs.Ytdgolhcekomcmaa.fnPrefixes
open Go.ChangeShapes Go.WideShapes Go.ChangeAt Go.RowKit
open Go.ChangeMaps (open_string shut_string)
set_option linter.unusedVariables false
open Go.Proofs.Ytdgolhcekomcmaa.base Go.Proofs.Ytdgolhcekomcmaa.pairs Go.Proofs.Ytdgolhcekomcmaa.ords Go.Proofs.Ytdgolhcekomcmaa.help Go.Proofs.Ytdgolhcekomcmaa.helps Go.Proofs.Ytdgolhcekomcmaa.recs Go.Proofs.Ytdgolhcekomcmaa.lay Go.Proofs.Ytdgolhcekomcmaa.draw

theorem cntR_le {l : List Rc} (h : ∀ r ∈ l, r.2.2.length ≤ 8) : cntR l ≤ 26 * l.length := by
  induction l with
  | nil => simp [cntR]
  | cons r l ih =>
    have h1 := h r List.mem_cons_self
    have h2 := ih (fun x hx => h x (List.mem_cons_of_mem _ hx))
    unfold cntR at h2 ⊢
    simp only [List.map_cons, List.sum_cons, List.length_cons]
    omega
theorem right_bound {s : Shd} (h : Right s) : Bound s := by
  have h1 := h.room
  obtain ⟨seen, hm⟩ := h.made
  have h2 := ((pairsOk_iff _).1 (replay_ok hm).1).2
  have h3 := cntR_le (fun r hr => (tinyR_ok (h.recOk r hr)).2.2.1)
  have h4 := cntR_le (l := s.2.2.2.2) (fun r hr => (tinyR_ok (h.recOk r (h.held_tx r hr).1)).2.2.1)
  simp only [] at h2
  refine ⟨h.few, h.fewH, by omega, by omega, by omega, ?_⟩
  unfold cntS
  omega
theorem leftN_mono {s : Shd} {a b : Int} (h : a ≤ b) : leftN s a ≤ leftN s b := by
  unfold leftN
  omega
theorem crash_prefix {s : Shd} (h : Right s) {a b : Int} (hab : a ≤ b) : (crashR s a).2.1.length ≤ (crashR s b).2.1.length ∧ (crashR s b).2.1.take (crashR s a).2.1.length = (crashR s a).2.1 := by
  have h1 : ∀ k, crashR s k = crashS s k := fun k => by unfold crashR; rw [if_pos ((shardOk_iff s).2 h)]
  rw [h1, h1]
  have hl := leftN_mono (s := s) hab
  have h2 := (leftN_le h a).2
  have h3 := (leftN_le h b).2
  show (s.2.1.take (leftN s a)).length ≤ (s.2.1.take (leftN s b)).length ∧ (s.2.1.take (leftN s b)).take (s.2.1.take (leftN s a)).length = s.2.1.take (leftN s a)
  rw [List.length_take, List.length_take, List.take_take]
  refine ⟨by omega, ?_⟩
  rw [show min (min (leftN s a) s.2.1.length) (leftN s b) = leftN s a by omega]
theorem crash_right {s : Shd} (h : Right s) (k : Int) : Right (crashR s k) := by
  unfold crashR
  rw [if_pos ((shardOk_iff s).2 h)]
  exact right_crash h k
theorem crash_again {s : Shd} (h : Right s) (k : Int) : (crashR (crashR s k) 0).2.1 = (crashR s k).2.1 := by
  have h2 := crash_right h k
  have e : crashR (crashR s k) 0 = crashS (crashR s k) 0 := by
    show (if shardOk (crashR s k) = true then crashS (crashR s k) 0 else crashR s k) = _
    rw [if_pos ((shardOk_iff _).2 h2)]
  rw [e]
  have e2 : crashR s k = crashS s k := by unfold crashR; rw [if_pos ((shardOk_iff s).2 h)]
  have e3 : (crashR s k).2.2.1 = ((crashR s k).2.1.length : Int) := by
    rw [e2]
    show (leftN s k : Int) = ((s.2.1.take (leftN s k)).length : Int)
    rw [List.length_take]
    have := (leftN_le h k).2
    omega
  show (crashR s k).2.1.take (leftN (crashR s k) 0) = _
  have e4 : leftN (crashR s k) 0 = (crashR s k).2.1.length := by
    unfold leftN
    rw [e3]
    omega
  rw [e4, List.take_length]
theorem spotC {D w6 : World} (hb6 : Below (D.alloc (.cells #[.int .i64 0, .slice none 0 0, .int .i64 0, .slice none 0 0, .slice none 0 0] 35)).drew.heap.size (D.alloc (.cells #[.int .i64 0, .slice none 0 0, .int .i64 0, .slice none 0 0, .slice none 0 0] 35)).drew w6) : BoxIn D.heap.size 35 [] (shVals 0 0 none 0 0 none 0 0 none 0 0) [] w6 := BoxIn.below (BoxIn.below (boxIn_new D (shVals 0 0 none 0 0 none 0 0 none 0 0) 35) (Below.refl _ _).drew) hb6
theorem spot5 {D w8 : World} {X blk : Nat} {la ma ha : Option Addr} {ln lc mn mc hn hc : Nat} {s : Shd} {F : List Nat} (hA : InBox D X la ln lc ma mn mc ha hn hc s F) (h8 : Below D.heap.size D w8) (hbx : BoxIn blk 35 [] (shVals 0 0 none 0 0 none 0 0 none 0 0) [] w8) (hb : D.heap.size ≤ blk) (b0 b1 b2 b3 b4 : Value) :
    w8.cell? ⟨blk, 0, none⟩ = some (.int .i64 0) ∧ w8.cell? ⟨blk, 1, none⟩ = some (.slice none 0 0) ∧ w8.cell? ⟨blk, 2, none⟩ = some (.int .i64 0) ∧ w8.cell? ⟨blk, 3, none⟩ = some (.slice none 0 0) ∧ w8.cell? ⟨blk, 4, none⟩ = some (.slice none 0 0) ∧ w8.frozen? ⟨blk, 0, none⟩ = false ∧ w8.frozen? ⟨blk, 1, none⟩ = false ∧ w8.frozen? ⟨blk, 2, none⟩ = false ∧ w8.frozen? ⟨blk, 3, none⟩ = false ∧ w8.frozen? ⟨blk, 4, none⟩ = false ∧ ((((((w8.setCell ⟨blk, 0, none⟩ b0).setCell ⟨blk, 1, none⟩ b1).setCell ⟨blk, 2, none⟩ b2).setCell ⟨blk, 3, none⟩ b3).setCell ⟨blk, 4, none⟩ b4).cell? ⟨X, 0, none⟩ = some (.int .i64 s.1) ∧ (((((w8.setCell ⟨blk, 0, none⟩ b0).setCell ⟨blk, 1, none⟩ b1).setCell ⟨blk, 2, none⟩ b2).setCell ⟨blk, 3, none⟩ b3).setCell ⟨blk, 4, none⟩ b4).cell? ⟨X, 1, none⟩ = some (.slice la ln lc) ∧ (((((w8.setCell ⟨blk, 0, none⟩ b0).setCell ⟨blk, 1, none⟩ b1).setCell ⟨blk, 2, none⟩ b2).setCell ⟨blk, 3, none⟩ b3).setCell ⟨blk, 4, none⟩ b4).cell? ⟨X, 2, none⟩ = some (.int .i64 s.2.2.1) ∧ (((((w8.setCell ⟨blk, 0, none⟩ b0).setCell ⟨blk, 1, none⟩ b1).setCell ⟨blk, 2, none⟩ b2).setCell ⟨blk, 3, none⟩ b3).setCell ⟨blk, 4, none⟩ b4).cell? ⟨X, 3, none⟩ = some (.slice ma mn mc) ∧ (((((w8.setCell ⟨blk, 0, none⟩ b0).setCell ⟨blk, 1, none⟩ b1).setCell ⟨blk, 2, none⟩ b2).setCell ⟨blk, 3, none⟩ b3).setCell ⟨blk, 4, none⟩ b4).cell? ⟨X, 4, none⟩ = some (.slice ha hn hc)) ∧ Hid (BoxIn blk 35 [] [b0, b1, b2, b3, b4] [] (((((w8.setCell ⟨blk, 0, none⟩ b0).setCell ⟨blk, 1, none⟩ b1).setCell ⟨blk, 2, none⟩ b2).setCell ⟨blk, 3, none⟩ b3).setCell ⟨blk, 4, none⟩ b4) ∧ w8.grownBy (((((w8.setCell ⟨blk, 0, none⟩ b0).setCell ⟨blk, 1, none⟩ b1).setCell ⟨blk, 2, none⟩ b2).setCell ⟨blk, 3, none⟩ b3).setCell ⟨blk, 4, none⟩ b4) (some blk)) := by
  have e5 := hbx.set5 b0 b1 b2 b3 b4
  have z0 := hbx.cell 0 _ rfl
  have z1 := hbx.cell 1 _ rfl
  have z2 := hbx.cell 2 _ rfl
  have z3 := hbx.cell 3 _ rfl
  have z4 := hbx.cell 4 _ rfl
  have hX := hA.box.lt
  simp only [List.length_nil, Nat.zero_add] at e5 z0 z1 z2 z3 z4
  have hA8 := ((hA.below h8).keepg e5.2 (by omega) (fun e => by have := hA.own.lt _ e; omega)).cells
  exact ⟨z0, z1, z2, z3, z4, hbx.fz 0, hbx.fz 1, hbx.fz 2, hbx.fz 3, hbx.fz 4, hA8, Hid.mk' e5⟩
theorem rem5 (x : Nat) : ∃ q : Nat, q < 5 ∧ (x : Int).tmod 5 = (q : Int) ∧ (x : Int) % 5 = (q : Int) := by
  refine ⟨x % 5, Nat.mod_lt _ (by omega), ?_, by omega⟩
  rw [Int.tmod_eq_emod_of_nonneg (by omega)]; omega
theorem rem3 (x : Nat) : ∃ q : Nat, q < 3 ∧ (x : Int).tmod 3 = (q : Int) ∧ (x : Int) % 3 = (q : Int) := by
  refine ⟨x % 3, Nat.mod_lt _ (by omega), ?_, by omega⟩
  rw [Int.tmod_eq_emod_of_nonneg (by omega)]; omega
set_option maxRecDepth 100000 in
set_option maxHeartbeats 4000000 in
theorem walk (a0 : Option Addr) (len0 cap0 : Nat) (b0 : List UInt8) (w : World) (w0 : Sl w a0 len0 b0) :
    Calls Try.prog 6 #[.slice a0 len0 cap0] w fun e w' => e = .returned (.bool true) ∧ Below w.heap.size w w' := by
  have hm := w0.2.1
  have hb := big_ a0 len0 cap0 w hm
  by_cases hbig : 1048576 < len0
  · rw [decide_eq_true (by omega)] at hb
    have HB := Hid.mk' hb
    clear hb
    go_enter Try.func6, Try.ntmps6
    go_wp2_with fail
    refine HB.out.mono ?_
    rintro e w1 ⟨rfl, rfl⟩
    go_wp2_with fail
    go_ret
    exact ⟨rfl, Below.refl _ _⟩
  rw [decide_eq_false (by omega)] at hb
  have HB := Hid.mk' (hb.mono (fun e w' (hp : e = .returned (.bool false) ∧ w' = w) => (⟨hp.1, hp.2.symm⟩ : e = .returned (.bool false) ∧ w = w')))
  have HDR := Hid.mk' (drawShard a0 len0 cap0 b0 w w0 (by omega))
  clear hb
  go_enter Try.func6, Try.ntmps6
  go_wp2_with fail
  refine HB.out.mono ?_
  rintro e w1 ⟨rfl, rfl⟩
  go_wp2_with fail
  refine HDR.out.mono ?_
  rintro e w2 ⟨la, ln, lc, ma, mn, mc, ha, hn, hc, s, F, hD, rfl, hOS, hF, hb2⟩
  clear HB HDR
  have HRT := Hid.mk' hD.right
  obtain ⟨W, hW⟩ : ∃ W, w2.alloc (boxSh s.1 s.2.2.1 la ln lc ma mn mc ha hn hc) = W := ⟨_, rfl⟩
  have hbW : Below w2.heap.size w2 W := by rw [← hW]; exact below_two
  have hbx := inBox_new hOS
  rw [hW] at hbx
  have hBW := hb2.trans (hbW.mono hb2.size)
  have HAT := Hid.mk' (fun (i : Nat) wx (hi : i ≤ 3) (hx : Below w.heap.size w wx) => at_ a0 len0 cap0 b0 i wx (w0.below hx) (by omega) (by omega))
  have HCR : Hid (∀ (k : Int) wx, OwnSh wx la ln lc ma mn mc ha hn hc s F → Calls Try.prog 17 #[.agg #[.int .i64 s.1, .slice la ln lc, .int .i64 s.2.2.1, .slice ma mn mc, .slice ha hn hc], .int .i64 k] wx (RetSh wx (crashR s k))) := fun k wx hx => impl_crash la ln lc ma mn mc ha hn hc s k wx hx.see (recs.OwnSh.plainV hx).1 (right_bound HRT.out)
  have HW := Hid.mk' hW
  have HAT3 : Hid (∀ wx, Below w.heap.size w wx → Calls Try.prog 26 #[.slice a0 len0 cap0, .int .i64 3] wx fun e w' => ∃ x : Nat, x < 256 ∧ e = .returned (.int .i64 (x : Int)) ∧ w' = wx) := fun wx hx => HAT.out 3 wx (by omega) hx
  have HAT2 : Hid (Calls Try.prog 26 #[.slice a0 len0 cap0, .int .i64 2] W fun e w' => ∃ x : Nat, x < 256 ∧ e = .returned (.int .i64 (x : Int)) ∧ W = w') := (HAT.out 2 W (by omega) hBW).mono (fun e w' ⟨x, h1, h2, h3⟩ => ⟨x, h1, h2, h3.symm⟩)
  clear hW hOS hF hD hm
  go_wp2_with fail
  rw [HW.out]
  refine HAT2.out.mono ?_
  rintro e w3 ⟨x, hx, rfl, hw3⟩
  subst hw3
  clear HAT2 HW
  obtain ⟨q, hq, hq1, hq2⟩ := rem5 x
  obtain ⟨x0, x1, x2, x3, x4⟩ := hbx.cells
  have HC1 := Hid.mk' (HCR.out (q : Int) W hbx.own)
  go_wp2_with fail
  refine HC1.out.mono ?_
  rintro e w4 ⟨ia, na, ca, ja, mna, mca, ka, hnaa, hca, FA, rfl, hOA, hFA, hb4⟩
  clear HC1 x0 x1 x2 x3 x4
  obtain ⟨V, hV⟩ : ∃ V, w4.alloc (boxSh (crashR s (q : Int)).1 (crashR s (q : Int)).2.2.1 ia na ca ja mna mca ka hnaa hca) = V := ⟨_, rfl⟩
  have hbV : Below w4.heap.size w4 V := by rw [← hV]; exact below_two
  have hax := inBox_new hOA
  rw [hV] at hax
  have hB4 := hBW.trans (hb4.mono hBW.size)
  have hBV := hB4.trans (hbV.mono hB4.size)
  have hbx4 := hbx.below hb4
  have hbxV := hbx4.below hbV
  have hs4 := hbx4.box.lt
  have hsV := hax.box.lt
  have hdV : Below V.heap.size V V.drew := (Below.refl _ _).drew
  have hBd := hBV.trans (hdV.mono hBV.size)
  have hbxd := hbxV.below hdV
  have haxd := hax.below hdV
  have hda : Below V.drew.heap.size V.drew (V.alloc (.cells #[.int .i64 0, .slice none 0 0, .int .i64 0, .slice none 0 0, .slice none 0 0] 35)).drew := below_alloc (w := V.drew)
  have hBda := hBd.trans (hda.mono hBd.size)
  obtain ⟨x0, x1, x2, x3, x4⟩ := hbxd.cells
  have hcs : ∀ v, Below V.drew.heap.size V.drew v → v.cell? ⟨w2.heap.size, 0, none⟩ = some (.int .i64 s.1) ∧ v.cell? ⟨w2.heap.size, 1, none⟩ = some (.slice la ln lc) ∧ v.cell? ⟨w2.heap.size, 2, none⟩ = some (.int .i64 s.2.2.1) ∧ v.cell? ⟨w2.heap.size, 3, none⟩ = some (.slice ma mn mc) ∧ v.cell? ⟨w2.heap.size, 4, none⟩ = some (.slice ha hn hc) := fun v hv => (hbxd.below hv).cells
  have HCS := Hid.mk' hcs
  have HV := Hid.mk' hV
  clear hcs hV hOA hax hbx hbx4
  go_wp2_with fail
  rw [HV.out]
  go_region_held3 (fun w' => w'.cell? ⟨w2.heap.size, 0, none⟩ = some (.int .i64 s.1) ∧ w'.cell? ⟨w2.heap.size, 1, none⟩ = some (.slice la ln lc) ∧ w'.cell? ⟨w2.heap.size, 2, none⟩ = some (.int .i64 s.2.2.1) ∧ w'.cell? ⟨w2.heap.size, 3, none⟩ = some (.slice ma mn mc) ∧ w'.cell? ⟨w2.heap.size, 4, none⟩ = some (.slice ha hn hc)) (first | (with_reducible exact y) | (with_reducible exact HCS.out _ (Below.refl _ _)) | (with_reducible exact HCS.out _ hda) | (with_reducible exact HCS.out _ h6) | (with_reducible exact HCS.out _ (h6.alloc h6.size _)) | fail "keep6") (first | (go_at_call 26; (first | (with_reducible refine (HAT3.out _ hBd).mono ?_) | (with_reducible refine (HAT3.out _ hBda).mono ?_)); rintro e w5 ⟨x', hx', rfl, hw5⟩; subst hw5; obtain ⟨r, hr, hr1, hr2⟩ := rem3 x'; have hqr : IntKind.i64.wrap ((q : Int) + (r : Int)) = (q : Int) + (r : Int) := wraps_i64 _ (by omega) (by omega)) | (go_at_call 17; (first | (with_reducible refine (HCR.out ((q : Int) + (r : Int)) _ hbxd.own).mono ?_) | (with_reducible refine (HCR.out ((q : Int) + (r : Int)) _ (hbxd.own.below hda)).mono ?_)); rintro e w6 ⟨lb, nb, cb, mb, nmb, cmb, hb', nhb, chb, FB, rfl, hOB, hFB, hb6⟩; have h6 : Below V.drew.heap.size V.drew w6 := (by first | (with_reducible exact hb6) | (exact hda.trans (hb6.mono hda.size))); (first | (guard_hyp hb6 : Below (V.alloc (.cells #[.int .i64 0, .slice none 0 0, .int .i64 0, .slice none 0 0, .slice none 0 0] 35)).drew.heap.size (V.alloc (.cells #[.int .i64 0, .slice none 0 0, .int .i64 0, .slice none 0 0, .slice none 0 0] 35)).drew w6; have hbx8 := spotC hb6; obtain ⟨z0, z1, z2, z3, z4, f0, f1, f2, f3, f4, y, HE5⟩ := spot5 hbxd h6 hbx8 (Nat.le_refl _) (.int .i64 (crashR s ((q : Int) + (r : Int))).1) (.slice lb nb cb) (.int .i64 (crashR s ((q : Int) + (r : Int))).2.2.1) (.slice mb nmb cmb) (.slice hb' nhb chb)) | skip)) | fail "arm6")
  · have hbn : Below w6.heap.size w6 (w6.alloc (.cells #[.int .i64 (crashR s ((q : Int) + (r : Int))).1, .slice lb nb cb, .int .i64 (crashR s ((q : Int) + (r : Int))).2.2.1, .slice mb nmb cmb, .slice hb' nhb chb] 35)) := below_alloc
    have hbb := inBox_new hOB
    have hx7 := (hbxd.below h6).below hbn
    have ha7 := (haxd.below h6).below hbn
    have hB6 := hBd.trans (h6.mono hBd.size)
    have hB7 := hB6.trans (hbn.mono hB6.size)
    clear hbn hOB hFB hb6 h6 hbxd haxd hBd hBda hda hdV hB6
    generalize hV7 : w6.alloc (.cells #[.int .i64 (crashR s ((q : Int) + (r : Int))).1, .slice lb nb cb, .int .i64 (crashR s ((q : Int) + (r : Int))).2.2.1, .slice mb nmb cmb, .slice hb' nhb chb] 35) = V7 at *
    have hbb' := hbb
    clear hbb hV7
    have RA := crash_right HRT.out (q : Int)
    have RB := crash_right HRT.out ((q : Int) + (r : Int))
    have hAB := crash_prefix HRT.out (a := (q : Int)) (b := (q : Int) + (r : Int)) (by omega)
    have hCB := crash_again HRT.out ((q : Int) + (r : Int))
    have hidA : (crashR s (q : Int)).1 = s.1 := by unfold crashR; split <;> rfl
    clear x0 x1 x2 x3 x4 HCS HCR HAT HAT3 HV hqr hr1 hr2 hq1 hq2
    generalize crashR s ((q : Int) + (r : Int)) = B at *
    generalize crashR s (q : Int) = A at *
    have HC0 : Hid (Calls Try.prog 17 #[.agg #[.int .i64 B.1, .slice lb nb cb, .int .i64 B.2.2.1, .slice mb nmb cmb, .slice hb' nhb chb], .int .i64 0] V7 (RetSh V7 (crashR B 0))) := impl_crash lb nb cb mb nmb cmb hb' nhb chb B 0 V7 hbb'.own.see (recs.OwnSh.plainV hbb'.own).1 (right_bound RB)
    generalize crashR B 0 = C at *
    obtain ⟨x0, x1, x2, x3, x4⟩ := hbb'.cells
    go_wp2_with fail
    refine HC0.out.mono ?_
    rintro e w8 ⟨ic, nc, cc, jc, mnc, mcc, kc, hnc, hcc, FC, rfl, hOC, hFC, hb8⟩
    clear x0 x1 x2 x3 x4 HC0
    obtain ⟨V9, hV9⟩ : ∃ V9, w8.alloc (boxSh C.1 C.2.2.1 ic nc cc jc mnc mcc kc hnc hcc) = V9 := ⟨_, rfl⟩
    have hbV9 : Below w8.heap.size w8 V9 := by rw [← hV9]; exact below_two
    have hd9 : Below V9.heap.size V9 V9.drew := (Below.refl _ _).drew
    have hc9 := inBox_new hOC
    rw [hV9] at hc9
    have hcz := hc9.below hd9
    have hsz := ((hx7.below hb8).below hbV9).below hd9
    have haz := ((ha7.below hb8).below hbV9).below hd9
    have hbz := ((hbb'.below hb8).below hbV9).below hd9
    have hB8 := hB7.trans (hb8.mono hB7.size)
    have hB9 := hB8.trans (hbV9.mono hB8.size)
    have hBz := hB9.trans (hd9.mono hB9.size)
    have hna : A.2.1.length = na := haz.own.see.log.1
    have hnb : B.2.1.length = nb := hbz.own.see.log.1
    have hnc : C.2.1.length = nc := hcz.own.see.log.1
    have hnn : nc = nb := by rw [← hnc, hCB, hnb]
    subst hnn
    have hle : na ≤ nc := by have := hAB.1; omega
    have hlei : (na : Int) ≤ (nc : Int) := by omega
    have hlc9 := hbz.own.see.lc
    have hnac : na ≤ cb := by omega
    have hma := right_bound RA
    have hmb := right_bound RB
    obtain ⟨u1, u2, u3⟩ := SeeSh.few haz.own.see hma
    obtain ⟨v1, v2, v3⟩ := SeeSh.few hbz.own.see hmb
    have okA : shardOk A = true := (shardOk_iff A).2 RA
    have okB : shardOk B = true := (shardOk_iff B).2 RB
    have HS1 : Hid (∀ v, Below V9.drew.heap.size V9.drew v → Calls Try.prog 21 #[.slice ia na ca, .slice lb na cb] v fun e w' => e = .returned (.bool true) ∧ Below v.heap.size v w') := fun v hv => by
      refine sameRecsT ia lb na ca cb A.2.1 v (haz.below hv).own.see.log ?_
      have hL := (hbz.below hv).own.see.log
      rw [← hAB.2, hna]
      rcases Nat.eq_zero_or_pos na with e | e
      · rw [e, List.take_zero]; exact slr_nil _ _
      · obtain ⟨b, off, ea, _⟩ := hL.2.2.2 (by omega)
        subst ea
        exact hL.cut na hle
    have HS2 : Hid (∀ v, Below V9.drew.heap.size V9.drew v → Calls Try.prog 21 #[.slice lb nc cb, .slice ic nc cc] v fun e w' => e = .returned (.bool true) ∧ Below v.heap.size v w') := fun v hv => by
      refine sameRecsT lb ic nc cb cc B.2.1 v (hbz.below hv).own.see.log ?_
      have := (hcz.below hv).own.see.log
      rwa [hCB] at this
    have HO1 : Hid (∀ v, Below V9.drew.heap.size V9.drew v → Calls Try.prog 20 #[.agg #[.int .i64 s.1, .slice ia na ca, .int .i64 A.2.2.1, .slice ja mna mca, .slice ka hnaa hca]] v fun e w' => e = .returned (.bool true) ∧ Below v.heap.size v w') := fun v hv => by
      have := impl_shardOk ia na ca ja mna mca ka hnaa hca A v (haz.below hv).own.see (recs.OwnSh.plainV (haz.below hv).own).1 hma.few (by omega) (by omega)
      have h2 : aggSh A.1 A.2.2.1 ia na ca ja mna mca ka hnaa hca = .agg #[.int .i64 s.1, .slice ia na ca, .int .i64 A.2.2.1, .slice ja mna mca, .slice ka hnaa hca] := by rw [hidA]
      rwa [okA, h2] at this
    have HO2 : Hid (∀ v, Below V9.drew.heap.size V9.drew v → Calls Try.prog 20 #[.agg #[.int .i64 B.1, .slice lb nc cb, .int .i64 B.2.2.1, .slice mb nmb cmb, .slice hb' nhb chb]] v fun e w' => e = .returned (.bool true) ∧ Below v.heap.size v w') := fun v hv => by
      have := impl_shardOk lb nc cb mb nmb cmb hb' nhb chb B v (hbz.below hv).own.see (recs.OwnSh.plainV (hbz.below hv).own).1 hmb.few (by omega) (by omega)
      rwa [okB] at this
    have HCS9 : Hid (∀ v, Below V9.drew.heap.size V9.drew v → v.cell? ⟨w4.heap.size, 0, none⟩ = some (.int .i64 s.1) ∧ v.cell? ⟨w4.heap.size, 1, none⟩ = some (.slice ia na ca) ∧ v.cell? ⟨w4.heap.size, 2, none⟩ = some (.int .i64 A.2.2.1) ∧ v.cell? ⟨w4.heap.size, 3, none⟩ = some (.slice ja mna mca) ∧ v.cell? ⟨w4.heap.size, 4, none⟩ = some (.slice ka hnaa hca) ∧ v.cell? ⟨w6.heap.size, 0, none⟩ = some (.int .i64 B.1) ∧ v.cell? ⟨w6.heap.size, 1, none⟩ = some (.slice lb nc cb) ∧ v.cell? ⟨w6.heap.size, 2, none⟩ = some (.int .i64 B.2.2.1) ∧ v.cell? ⟨w6.heap.size, 3, none⟩ = some (.slice mb nmb cmb) ∧ v.cell? ⟨w6.heap.size, 4, none⟩ = some (.slice hb' nhb chb) ∧ v.cell? ⟨w8.heap.size, 1, none⟩ = some (.slice ic nc cc) ∧ v.cell? ⟨w2.heap.size, 0, none⟩ = some (.int .i64 s.1)) := fun v hv => by
      obtain ⟨p0, p1, p2, p3, p4⟩ := (haz.below hv).cells
      rw [hidA] at p0
      obtain ⟨q0, q1, q2, q3, q4⟩ := (hbz.below hv).cells
      exact ⟨p0, p1, p2, p3, p4, q0, q1, q2, q3, q4, (hcz.below hv).cells.2.1, (hsz.below hv).cells.1⟩
    have HV9 := Hid.mk' hV9
    have HBZ := Hid.mk' hBz
    clear hV9 hc9 hcz hsz haz hbz hx7 ha7 hbb' hOC hFC hb8 hB7 hB8 hB9 hBz hma hmb RA RB okA okB hAB hCB hd9 hbV9 hna hnb hnc hle u1 u2 u3 v1 v2 v3 hlc9 hidA
    go_wp2_with fail
    rw [HV9.out]
    go_region_held3 (fun w' => w'.cell? ⟨w4.heap.size, 0, none⟩ = some (.int .i64 s.1) ∧ w'.cell? ⟨w4.heap.size, 1, none⟩ = some (.slice ia na ca) ∧ w'.cell? ⟨w4.heap.size, 2, none⟩ = some (.int .i64 A.2.2.1) ∧ w'.cell? ⟨w4.heap.size, 3, none⟩ = some (.slice ja mna mca) ∧ w'.cell? ⟨w4.heap.size, 4, none⟩ = some (.slice ka hnaa hca) ∧ w'.cell? ⟨w6.heap.size, 0, none⟩ = some (.int .i64 B.1) ∧ w'.cell? ⟨w6.heap.size, 1, none⟩ = some (.slice lb nc cb) ∧ w'.cell? ⟨w6.heap.size, 2, none⟩ = some (.int .i64 B.2.2.1) ∧ w'.cell? ⟨w6.heap.size, 3, none⟩ = some (.slice mb nmb cmb) ∧ w'.cell? ⟨w6.heap.size, 4, none⟩ = some (.slice hb' nhb chb) ∧ w'.cell? ⟨w8.heap.size, 1, none⟩ = some (.slice ic nc cc) ∧ w'.cell? ⟨w2.heap.size, 0, none⟩ = some (.int .i64 s.1)) (first | (with_reducible exact HCS9.out _ h13) | (with_reducible exact HCS9.out _ h12) | (with_reducible exact HCS9.out _ h11) | (with_reducible exact HCS9.out _ h10) | (with_reducible exact HCS9.out _ (Below.refl _ _)) | fail "keep8") (first | (go_at_call 21; (with_reducible refine (HS1.out _ (Below.refl _ _)).mono ?_); rintro e w10 ⟨rfl, h10⟩) | (go_at_call 21; (with_reducible refine (HS2.out _ h10).mono ?_); rintro e w11 ⟨rfl, hb11⟩; have h11 := h10.trans (hb11.mono h10.size)) | (go_at_call 20; (with_reducible refine (HO1.out _ h11).mono ?_); rintro e w12 ⟨rfl, hb12⟩; have h12 := h11.trans (hb12.mono h11.size)) | (go_at_call 20; (with_reducible refine (HO2.out _ h12).mono ?_); rintro e w13 ⟨rfl, hb13⟩; have h13 := h12.trans (hb13.mono h12.size)) | fail "arm8")
    have hBf := HBZ.out.trans (h13.mono HBZ.out.size)
    go_wp2_with fail
    go_ret
    exact ⟨rfl, hBf⟩
  · have hgr := HE5.out.2
    have hw2 : V.drew.heap.size = V.heap.size := by simp
    have hsz : (V.alloc (.cells #[.int .i64 0, .slice none 0 0, .int .i64 0, .slice none 0 0, .slice none 0 0] 35)).drew.heap.size = V.heap.size + 1 := by simp
    have hB6 := hBd.trans (h6.mono hBd.size)
    have hbb' : InBox (((((w6.setCell ⟨V.heap.size, 0, none⟩ (.int .i64 (crashR s ((q : Int) + (r : Int))).1)).setCell ⟨V.heap.size, 1, none⟩ (.slice lb nb cb)).setCell ⟨V.heap.size, 2, none⟩ (.int .i64 (crashR s ((q : Int) + (r : Int))).2.2.1)).setCell ⟨V.heap.size, 3, none⟩ (.slice mb nmb cmb)).setCell ⟨V.heap.size, 4, none⟩ (.slice hb' nhb chb)) V.heap.size lb nb cb mb nmb cmb hb' nhb chb (crashR s ((q : Int) + (r : Int))) FB := ⟨HE5.out.1, hOB.keep (fun j hj => hgr.block j (hOB.lt j hj) (fun e => by have := hFB j hj; have := Option.some.inj e; omega)), fun e => by have := hFB _ e; omega⟩
    have hx7 := (hbxd.below h6).keepg hgr (by have := hbxd.box.lt; omega) (fun e => by have := hbxd.own.lt _ e; omega)
    have ha7 := (haxd.below h6).keepg hgr (by have := haxd.box.lt; omega) (fun e => by have := haxd.own.lt _ e; omega)
    have hB7 := hB6.grown hgr hB6.size (fun j e => by cases e; exact hBV.size)
    clear hgr HE5 hbx8 z0 z1 z2 z3 z4 f0 f1 f2 f3 f4 y hOB hFB hb6 h6 hbxd haxd hBd hBda hda hdV hB6 hsz hw2
    generalize (((((w6.setCell ⟨V.heap.size, 0, none⟩ (.int .i64 (crashR s ((q : Int) + (r : Int))).1)).setCell ⟨V.heap.size, 1, none⟩ (.slice lb nb cb)).setCell ⟨V.heap.size, 2, none⟩ (.int .i64 (crashR s ((q : Int) + (r : Int))).2.2.1)).setCell ⟨V.heap.size, 3, none⟩ (.slice mb nmb cmb)).setCell ⟨V.heap.size, 4, none⟩ (.slice hb' nhb chb)) = V7 at *
    have RA := crash_right HRT.out (q : Int)
    have RB := crash_right HRT.out ((q : Int) + (r : Int))
    have hAB := crash_prefix HRT.out (a := (q : Int)) (b := (q : Int) + (r : Int)) (by omega)
    have hCB := crash_again HRT.out ((q : Int) + (r : Int))
    have hidA : (crashR s (q : Int)).1 = s.1 := by unfold crashR; split <;> rfl
    clear x0 x1 x2 x3 x4 HCS HCR HAT HAT3 HV hqr hr1 hr2 hq1 hq2
    generalize crashR s ((q : Int) + (r : Int)) = B at *
    generalize crashR s (q : Int) = A at *
    have HC0 : Hid (Calls Try.prog 17 #[.agg #[.int .i64 B.1, .slice lb nb cb, .int .i64 B.2.2.1, .slice mb nmb cmb, .slice hb' nhb chb], .int .i64 0] V7 (RetSh V7 (crashR B 0))) := impl_crash lb nb cb mb nmb cmb hb' nhb chb B 0 V7 hbb'.own.see (recs.OwnSh.plainV hbb'.own).1 (right_bound RB)
    generalize crashR B 0 = C at *
    obtain ⟨x0, x1, x2, x3, x4⟩ := hbb'.cells
    go_wp2_with fail
    refine HC0.out.mono ?_
    rintro e w8 ⟨ic, nc, cc, jc, mnc, mcc, kc, hnc, hcc, FC, rfl, hOC, hFC, hb8⟩
    clear x0 x1 x2 x3 x4 HC0
    obtain ⟨V9, hV9⟩ : ∃ V9, w8.alloc (boxSh C.1 C.2.2.1 ic nc cc jc mnc mcc kc hnc hcc) = V9 := ⟨_, rfl⟩
    have hbV9 : Below w8.heap.size w8 V9 := by rw [← hV9]; exact below_two
    have hd9 : Below V9.heap.size V9 V9.drew := (Below.refl _ _).drew
    have hc9 := inBox_new hOC
    rw [hV9] at hc9
    have hcz := hc9.below hd9
    have hsz := ((hx7.below hb8).below hbV9).below hd9
    have haz := ((ha7.below hb8).below hbV9).below hd9
    have hbz := ((hbb'.below hb8).below hbV9).below hd9
    have hB8 := hB7.trans (hb8.mono hB7.size)
    have hB9 := hB8.trans (hbV9.mono hB8.size)
    have hBz := hB9.trans (hd9.mono hB9.size)
    have hna : A.2.1.length = na := haz.own.see.log.1
    have hnb : B.2.1.length = nb := hbz.own.see.log.1
    have hnc : C.2.1.length = nc := hcz.own.see.log.1
    have hnn : nc = nb := by rw [← hnc, hCB, hnb]
    subst hnn
    have hle : na ≤ nc := by have := hAB.1; omega
    have hlei : (na : Int) ≤ (nc : Int) := by omega
    have hlc9 := hbz.own.see.lc
    have hnac : na ≤ cb := by omega
    have hma := right_bound RA
    have hmb := right_bound RB
    obtain ⟨u1, u2, u3⟩ := SeeSh.few haz.own.see hma
    obtain ⟨v1, v2, v3⟩ := SeeSh.few hbz.own.see hmb
    have okA : shardOk A = true := (shardOk_iff A).2 RA
    have okB : shardOk B = true := (shardOk_iff B).2 RB
    have HS1 : Hid (∀ v, Below V9.drew.heap.size V9.drew v → Calls Try.prog 21 #[.slice ia na ca, .slice lb na cb] v fun e w' => e = .returned (.bool true) ∧ Below v.heap.size v w') := fun v hv => by
      refine sameRecsT ia lb na ca cb A.2.1 v (haz.below hv).own.see.log ?_
      have hL := (hbz.below hv).own.see.log
      rw [← hAB.2, hna]
      rcases Nat.eq_zero_or_pos na with e | e
      · rw [e, List.take_zero]; exact slr_nil _ _
      · obtain ⟨b, off, ea, _⟩ := hL.2.2.2 (by omega)
        subst ea
        exact hL.cut na hle
    have HS2 : Hid (∀ v, Below V9.drew.heap.size V9.drew v → Calls Try.prog 21 #[.slice lb nc cb, .slice ic nc cc] v fun e w' => e = .returned (.bool true) ∧ Below v.heap.size v w') := fun v hv => by
      refine sameRecsT lb ic nc cb cc B.2.1 v (hbz.below hv).own.see.log ?_
      have := (hcz.below hv).own.see.log
      rwa [hCB] at this
    have HO1 : Hid (∀ v, Below V9.drew.heap.size V9.drew v → Calls Try.prog 20 #[.agg #[.int .i64 s.1, .slice ia na ca, .int .i64 A.2.2.1, .slice ja mna mca, .slice ka hnaa hca]] v fun e w' => e = .returned (.bool true) ∧ Below v.heap.size v w') := fun v hv => by
      have := impl_shardOk ia na ca ja mna mca ka hnaa hca A v (haz.below hv).own.see (recs.OwnSh.plainV (haz.below hv).own).1 hma.few (by omega) (by omega)
      have h2 : aggSh A.1 A.2.2.1 ia na ca ja mna mca ka hnaa hca = .agg #[.int .i64 s.1, .slice ia na ca, .int .i64 A.2.2.1, .slice ja mna mca, .slice ka hnaa hca] := by rw [hidA]
      rwa [okA, h2] at this
    have HO2 : Hid (∀ v, Below V9.drew.heap.size V9.drew v → Calls Try.prog 20 #[.agg #[.int .i64 B.1, .slice lb nc cb, .int .i64 B.2.2.1, .slice mb nmb cmb, .slice hb' nhb chb]] v fun e w' => e = .returned (.bool true) ∧ Below v.heap.size v w') := fun v hv => by
      have := impl_shardOk lb nc cb mb nmb cmb hb' nhb chb B v (hbz.below hv).own.see (recs.OwnSh.plainV (hbz.below hv).own).1 hmb.few (by omega) (by omega)
      rwa [okB] at this
    have HCS9 : Hid (∀ v, Below V9.drew.heap.size V9.drew v → v.cell? ⟨w4.heap.size, 0, none⟩ = some (.int .i64 s.1) ∧ v.cell? ⟨w4.heap.size, 1, none⟩ = some (.slice ia na ca) ∧ v.cell? ⟨w4.heap.size, 2, none⟩ = some (.int .i64 A.2.2.1) ∧ v.cell? ⟨w4.heap.size, 3, none⟩ = some (.slice ja mna mca) ∧ v.cell? ⟨w4.heap.size, 4, none⟩ = some (.slice ka hnaa hca) ∧ v.cell? ⟨V.heap.size, 0, none⟩ = some (.int .i64 B.1) ∧ v.cell? ⟨V.heap.size, 1, none⟩ = some (.slice lb nc cb) ∧ v.cell? ⟨V.heap.size, 2, none⟩ = some (.int .i64 B.2.2.1) ∧ v.cell? ⟨V.heap.size, 3, none⟩ = some (.slice mb nmb cmb) ∧ v.cell? ⟨V.heap.size, 4, none⟩ = some (.slice hb' nhb chb) ∧ v.cell? ⟨w8.heap.size, 1, none⟩ = some (.slice ic nc cc) ∧ v.cell? ⟨w2.heap.size, 0, none⟩ = some (.int .i64 s.1)) := fun v hv => by
      obtain ⟨p0, p1, p2, p3, p4⟩ := (haz.below hv).cells
      rw [hidA] at p0
      obtain ⟨q0, q1, q2, q3, q4⟩ := (hbz.below hv).cells
      exact ⟨p0, p1, p2, p3, p4, q0, q1, q2, q3, q4, (hcz.below hv).cells.2.1, (hsz.below hv).cells.1⟩
    have HV9 := Hid.mk' hV9
    have HBZ := Hid.mk' hBz
    clear hV9 hc9 hcz hsz haz hbz hx7 ha7 hbb' hOC hFC hb8 hB7 hB8 hB9 hBz hma hmb RA RB okA okB hAB hCB hd9 hbV9 hna hnb hnc hle u1 u2 u3 v1 v2 v3 hlc9 hidA
    go_wp2_with fail
    rw [HV9.out]
    go_region_held3 (fun w' => w'.cell? ⟨w4.heap.size, 0, none⟩ = some (.int .i64 s.1) ∧ w'.cell? ⟨w4.heap.size, 1, none⟩ = some (.slice ia na ca) ∧ w'.cell? ⟨w4.heap.size, 2, none⟩ = some (.int .i64 A.2.2.1) ∧ w'.cell? ⟨w4.heap.size, 3, none⟩ = some (.slice ja mna mca) ∧ w'.cell? ⟨w4.heap.size, 4, none⟩ = some (.slice ka hnaa hca) ∧ w'.cell? ⟨V.heap.size, 0, none⟩ = some (.int .i64 B.1) ∧ w'.cell? ⟨V.heap.size, 1, none⟩ = some (.slice lb nc cb) ∧ w'.cell? ⟨V.heap.size, 2, none⟩ = some (.int .i64 B.2.2.1) ∧ w'.cell? ⟨V.heap.size, 3, none⟩ = some (.slice mb nmb cmb) ∧ w'.cell? ⟨V.heap.size, 4, none⟩ = some (.slice hb' nhb chb) ∧ w'.cell? ⟨w8.heap.size, 1, none⟩ = some (.slice ic nc cc) ∧ w'.cell? ⟨w2.heap.size, 0, none⟩ = some (.int .i64 s.1)) (first | (with_reducible exact HCS9.out _ h13) | (with_reducible exact HCS9.out _ h12) | (with_reducible exact HCS9.out _ h11) | (with_reducible exact HCS9.out _ h10) | (with_reducible exact HCS9.out _ (Below.refl _ _)) | fail "keep8") (first | (go_at_call 21; (with_reducible refine (HS1.out _ (Below.refl _ _)).mono ?_); rintro e w10 ⟨rfl, h10⟩) | (go_at_call 21; (with_reducible refine (HS2.out _ h10).mono ?_); rintro e w11 ⟨rfl, hb11⟩; have h11 := h10.trans (hb11.mono h10.size)) | (go_at_call 20; (with_reducible refine (HO1.out _ h11).mono ?_); rintro e w12 ⟨rfl, hb12⟩; have h12 := h11.trans (hb12.mono h11.size)) | (go_at_call 20; (with_reducible refine (HO2.out _ h12).mono ?_); rintro e w13 ⟨rfl, hb13⟩; have h13 := h12.trans (hb13.mono h12.size)) | fail "arm8")
    have hBf := HBZ.out.trans (h13.mono HBZ.out.size)
    go_wp2_with fail
    go_ret
    exact ⟨rfl, hBf⟩
  · have hgr := HE5.out.2
    have hw2 : V.drew.heap.size = V.heap.size := by simp
    have hsz : (V.alloc (.cells #[.int .i64 0, .slice none 0 0, .int .i64 0, .slice none 0 0, .slice none 0 0] 35)).drew.heap.size = V.heap.size + 1 := by simp
    have hB6 := hBd.trans (h6.mono hBd.size)
    have hbb' : InBox (((((w6.setCell ⟨V.heap.size, 0, none⟩ (.int .i64 (crashR s ((q : Int) + (r : Int))).1)).setCell ⟨V.heap.size, 1, none⟩ (.slice lb nb cb)).setCell ⟨V.heap.size, 2, none⟩ (.int .i64 (crashR s ((q : Int) + (r : Int))).2.2.1)).setCell ⟨V.heap.size, 3, none⟩ (.slice mb nmb cmb)).setCell ⟨V.heap.size, 4, none⟩ (.slice hb' nhb chb)) V.heap.size lb nb cb mb nmb cmb hb' nhb chb (crashR s ((q : Int) + (r : Int))) FB := ⟨HE5.out.1, hOB.keep (fun j hj => hgr.block j (hOB.lt j hj) (fun e => by have := hFB j hj; have := Option.some.inj e; omega)), fun e => by have := hFB _ e; omega⟩
    have hx7 := (hbxd.below h6).keepg hgr (by have := hbxd.box.lt; omega) (fun e => by have := hbxd.own.lt _ e; omega)
    have ha7 := (haxd.below h6).keepg hgr (by have := haxd.box.lt; omega) (fun e => by have := haxd.own.lt _ e; omega)
    have hB7 := hB6.grown hgr hB6.size (fun j e => by cases e; exact hBV.size)
    clear hgr HE5 hbx8 z0 z1 z2 z3 z4 f0 f1 f2 f3 f4 y hOB hFB hb6 h6 hbxd haxd hBd hBda hda hdV hB6 hsz hw2
    generalize (((((w6.setCell ⟨V.heap.size, 0, none⟩ (.int .i64 (crashR s ((q : Int) + (r : Int))).1)).setCell ⟨V.heap.size, 1, none⟩ (.slice lb nb cb)).setCell ⟨V.heap.size, 2, none⟩ (.int .i64 (crashR s ((q : Int) + (r : Int))).2.2.1)).setCell ⟨V.heap.size, 3, none⟩ (.slice mb nmb cmb)).setCell ⟨V.heap.size, 4, none⟩ (.slice hb' nhb chb)) = V7 at *
    have RA := crash_right HRT.out (q : Int)
    have RB := crash_right HRT.out ((q : Int) + (r : Int))
    have hAB := crash_prefix HRT.out (a := (q : Int)) (b := (q : Int) + (r : Int)) (by omega)
    have hCB := crash_again HRT.out ((q : Int) + (r : Int))
    have hidA : (crashR s (q : Int)).1 = s.1 := by unfold crashR; split <;> rfl
    clear x0 x1 x2 x3 x4 HCS HCR HAT HAT3 HV hqr hr1 hr2 hq1 hq2
    generalize crashR s ((q : Int) + (r : Int)) = B at *
    generalize crashR s (q : Int) = A at *
    have HC0 : Hid (Calls Try.prog 17 #[.agg #[.int .i64 B.1, .slice lb nb cb, .int .i64 B.2.2.1, .slice mb nmb cmb, .slice hb' nhb chb], .int .i64 0] V7 (RetSh V7 (crashR B 0))) := impl_crash lb nb cb mb nmb cmb hb' nhb chb B 0 V7 hbb'.own.see (recs.OwnSh.plainV hbb'.own).1 (right_bound RB)
    generalize crashR B 0 = C at *
    obtain ⟨x0, x1, x2, x3, x4⟩ := hbb'.cells
    go_wp2_with fail
    refine HC0.out.mono ?_
    rintro e w8 ⟨ic, nc, cc, jc, mnc, mcc, kc, hnc, hcc, FC, rfl, hOC, hFC, hb8⟩
    clear x0 x1 x2 x3 x4 HC0
    obtain ⟨V9, hV9⟩ : ∃ V9, w8.alloc (boxSh C.1 C.2.2.1 ic nc cc jc mnc mcc kc hnc hcc) = V9 := ⟨_, rfl⟩
    have hbV9 : Below w8.heap.size w8 V9 := by rw [← hV9]; exact below_two
    have hd9 : Below V9.heap.size V9 V9.drew := (Below.refl _ _).drew
    have hc9 := inBox_new hOC
    rw [hV9] at hc9
    have hcz := hc9.below hd9
    have hsz := ((hx7.below hb8).below hbV9).below hd9
    have haz := ((ha7.below hb8).below hbV9).below hd9
    have hbz := ((hbb'.below hb8).below hbV9).below hd9
    have hB8 := hB7.trans (hb8.mono hB7.size)
    have hB9 := hB8.trans (hbV9.mono hB8.size)
    have hBz := hB9.trans (hd9.mono hB9.size)
    have hna : A.2.1.length = na := haz.own.see.log.1
    have hnb : B.2.1.length = nb := hbz.own.see.log.1
    have hnc : C.2.1.length = nc := hcz.own.see.log.1
    have hnn : nc = nb := by rw [← hnc, hCB, hnb]
    subst hnn
    have hle : na ≤ nc := by have := hAB.1; omega
    have hlei : (na : Int) ≤ (nc : Int) := by omega
    have hlc9 := hbz.own.see.lc
    have hnac : na ≤ cb := by omega
    have hma := right_bound RA
    have hmb := right_bound RB
    obtain ⟨u1, u2, u3⟩ := SeeSh.few haz.own.see hma
    obtain ⟨v1, v2, v3⟩ := SeeSh.few hbz.own.see hmb
    have okA : shardOk A = true := (shardOk_iff A).2 RA
    have okB : shardOk B = true := (shardOk_iff B).2 RB
    have HS1 : Hid (∀ v, Below V9.drew.heap.size V9.drew v → Calls Try.prog 21 #[.slice ia na ca, .slice lb na cb] v fun e w' => e = .returned (.bool true) ∧ Below v.heap.size v w') := fun v hv => by
      refine sameRecsT ia lb na ca cb A.2.1 v (haz.below hv).own.see.log ?_
      have hL := (hbz.below hv).own.see.log
      rw [← hAB.2, hna]
      rcases Nat.eq_zero_or_pos na with e | e
      · rw [e, List.take_zero]; exact slr_nil _ _
      · obtain ⟨b, off, ea, _⟩ := hL.2.2.2 (by omega)
        subst ea
        exact hL.cut na hle
    have HS2 : Hid (∀ v, Below V9.drew.heap.size V9.drew v → Calls Try.prog 21 #[.slice lb nc cb, .slice ic nc cc] v fun e w' => e = .returned (.bool true) ∧ Below v.heap.size v w') := fun v hv => by
      refine sameRecsT lb ic nc cb cc B.2.1 v (hbz.below hv).own.see.log ?_
      have := (hcz.below hv).own.see.log
      rwa [hCB] at this
    have HO1 : Hid (∀ v, Below V9.drew.heap.size V9.drew v → Calls Try.prog 20 #[.agg #[.int .i64 s.1, .slice ia na ca, .int .i64 A.2.2.1, .slice ja mna mca, .slice ka hnaa hca]] v fun e w' => e = .returned (.bool true) ∧ Below v.heap.size v w') := fun v hv => by
      have := impl_shardOk ia na ca ja mna mca ka hnaa hca A v (haz.below hv).own.see (recs.OwnSh.plainV (haz.below hv).own).1 hma.few (by omega) (by omega)
      have h2 : aggSh A.1 A.2.2.1 ia na ca ja mna mca ka hnaa hca = .agg #[.int .i64 s.1, .slice ia na ca, .int .i64 A.2.2.1, .slice ja mna mca, .slice ka hnaa hca] := by rw [hidA]
      rwa [okA, h2] at this
    have HO2 : Hid (∀ v, Below V9.drew.heap.size V9.drew v → Calls Try.prog 20 #[.agg #[.int .i64 B.1, .slice lb nc cb, .int .i64 B.2.2.1, .slice mb nmb cmb, .slice hb' nhb chb]] v fun e w' => e = .returned (.bool true) ∧ Below v.heap.size v w') := fun v hv => by
      have := impl_shardOk lb nc cb mb nmb cmb hb' nhb chb B v (hbz.below hv).own.see (recs.OwnSh.plainV (hbz.below hv).own).1 hmb.few (by omega) (by omega)
      rwa [okB] at this
    have HCS9 : Hid (∀ v, Below V9.drew.heap.size V9.drew v → v.cell? ⟨w4.heap.size, 0, none⟩ = some (.int .i64 s.1) ∧ v.cell? ⟨w4.heap.size, 1, none⟩ = some (.slice ia na ca) ∧ v.cell? ⟨w4.heap.size, 2, none⟩ = some (.int .i64 A.2.2.1) ∧ v.cell? ⟨w4.heap.size, 3, none⟩ = some (.slice ja mna mca) ∧ v.cell? ⟨w4.heap.size, 4, none⟩ = some (.slice ka hnaa hca) ∧ v.cell? ⟨V.heap.size, 0, none⟩ = some (.int .i64 B.1) ∧ v.cell? ⟨V.heap.size, 1, none⟩ = some (.slice lb nc cb) ∧ v.cell? ⟨V.heap.size, 2, none⟩ = some (.int .i64 B.2.2.1) ∧ v.cell? ⟨V.heap.size, 3, none⟩ = some (.slice mb nmb cmb) ∧ v.cell? ⟨V.heap.size, 4, none⟩ = some (.slice hb' nhb chb) ∧ v.cell? ⟨w8.heap.size, 1, none⟩ = some (.slice ic nc cc) ∧ v.cell? ⟨w2.heap.size, 0, none⟩ = some (.int .i64 s.1)) := fun v hv => by
      obtain ⟨p0, p1, p2, p3, p4⟩ := (haz.below hv).cells
      rw [hidA] at p0
      obtain ⟨q0, q1, q2, q3, q4⟩ := (hbz.below hv).cells
      exact ⟨p0, p1, p2, p3, p4, q0, q1, q2, q3, q4, (hcz.below hv).cells.2.1, (hsz.below hv).cells.1⟩
    have HV9 := Hid.mk' hV9
    have HBZ := Hid.mk' hBz
    clear hV9 hc9 hcz hsz haz hbz hx7 ha7 hbb' hOC hFC hb8 hB7 hB8 hB9 hBz hma hmb RA RB okA okB hAB hCB hd9 hbV9 hna hnb hnc hle u1 u2 u3 v1 v2 v3 hlc9 hidA
    go_wp2_with fail
    rw [HV9.out]
    go_region_held3 (fun w' => w'.cell? ⟨w4.heap.size, 0, none⟩ = some (.int .i64 s.1) ∧ w'.cell? ⟨w4.heap.size, 1, none⟩ = some (.slice ia na ca) ∧ w'.cell? ⟨w4.heap.size, 2, none⟩ = some (.int .i64 A.2.2.1) ∧ w'.cell? ⟨w4.heap.size, 3, none⟩ = some (.slice ja mna mca) ∧ w'.cell? ⟨w4.heap.size, 4, none⟩ = some (.slice ka hnaa hca) ∧ w'.cell? ⟨V.heap.size, 0, none⟩ = some (.int .i64 B.1) ∧ w'.cell? ⟨V.heap.size, 1, none⟩ = some (.slice lb nc cb) ∧ w'.cell? ⟨V.heap.size, 2, none⟩ = some (.int .i64 B.2.2.1) ∧ w'.cell? ⟨V.heap.size, 3, none⟩ = some (.slice mb nmb cmb) ∧ w'.cell? ⟨V.heap.size, 4, none⟩ = some (.slice hb' nhb chb) ∧ w'.cell? ⟨w8.heap.size, 1, none⟩ = some (.slice ic nc cc) ∧ w'.cell? ⟨w2.heap.size, 0, none⟩ = some (.int .i64 s.1)) (first | (with_reducible exact HCS9.out _ h13) | (with_reducible exact HCS9.out _ h12) | (with_reducible exact HCS9.out _ h11) | (with_reducible exact HCS9.out _ h10) | (with_reducible exact HCS9.out _ (Below.refl _ _)) | fail "keep8") (first | (go_at_call 21; (with_reducible refine (HS1.out _ (Below.refl _ _)).mono ?_); rintro e w10 ⟨rfl, h10⟩) | (go_at_call 21; (with_reducible refine (HS2.out _ h10).mono ?_); rintro e w11 ⟨rfl, hb11⟩; have h11 := h10.trans (hb11.mono h10.size)) | (go_at_call 20; (with_reducible refine (HO1.out _ h11).mono ?_); rintro e w12 ⟨rfl, hb12⟩; have h12 := h11.trans (hb12.mono h11.size)) | (go_at_call 20; (with_reducible refine (HO2.out _ h12).mono ?_); rintro e w13 ⟨rfl, hb13⟩; have h13 := h12.trans (hb13.mono h12.size)) | fail "arm8")
    have hBf := HBZ.out.trans (h13.mono HBZ.out.size)
    go_wp2_with fail
    go_ret
    exact ⟨rfl, hBf⟩

theorem own : ownKnob Try.prog.godebug = none := by kernel_rfl
theorem laidOut : laidOutB Try.prog = true := by kernel_rfl

set_option maxRecDepth 100000 in
theorem lifted (os : Os) (started : os.Started) (H : Type) (enc : TypeId × Value → H) :
    ReturnsInHanded {} Try.checked os 6 .any (Rows.fnPrefixesSpec.pre6 enc Try.prog Try.f6 Rows.fnPrefixesRow.domain false) (Rows.fnPrefixesSpec.post enc Try.prog Try.f6 false true false false) := by
  refine returnsInHanded_of_change (C := Try.checked) own started (by kernel_rfl) Try.func6
    (ChangeSpec.witness6 (enc := enc) (C := Try.checked) false ⟨#[], #[.slice none 0 0], []⟩ 8 (by kernel_rfl) (by kernel_rfl) (by kernel_rfl) (by kernel_rfl)) ?_
  intro W base args ds gs before hval0 hW hcnd _
  have hval : ∀ (j : Nat) t v, Try.f6.params[j]? = some t → args[j]? = some v → Value.okWide Try.prog W .any base t v := hval0
  have hW' := hW
  obtain ⟨p, q, hA0, hV, rfl, hfz, hnd⟩ := hW
  have hA : DataW.TrodAll enc Try.prog W 0 (fun _ => true) true Try.f6.params.toList args.toList ds p := hA0
  rw [Try.params6] at hA hval
  obtain ⟨v0, vs0, d0, ds0, p0, q0, hargs, rfl, rfl, h0, r0⟩ := trodAll_cons hA
  obtain ⟨rfl, rfl, rfl⟩ := trodAll_nil r0
  obtain rfl : args = #[v0] := by cases args; simp_all
  obtain ⟨rfl, rfl⟩ := trodVars_none hV
  obtain ⟨a0, len0, cap0, rfl⟩ := okWide_slice Try.underlying22 (hval 0 22 v0 rfl rfl)
  have k0 := h0
  have lt0 : ∀ x ∈ p0, x.block < W.heap.size := by obtain ⟨m, hm⟩ := k0; exact DataW.trod_lt m _ _ _ hm
  obtain ⟨b0, w0⟩ : ∃ bs, Sl W a0 len0 bs := by
    obtain ⟨fuel, hf⟩ := h0
    rcases open_ints Try.underlying22 Try.underlying5 (by kernel_rfl) hf with ⟨hcs, _⟩ | ⟨x, l, c, zs, hcs, _, hl, hm, hz, _, hcell, hwz⟩
    · simp [Value.cells] at hcs
      obtain ⟨rfl, rfl, rfl⟩ := hcs
      exact ⟨[], sl_nil _ _⟩
    · simp [Value.cells] at hcs
      obtain ⟨rfl, rfl, rfl⟩ := hcs
      exact ⟨_, sl_of_ints hl hm (by simpa using hz) hcell hwz⟩
  clear hA0 hval0
  refine (walk a0 len0 cap0 b0 W w0).mono fun e W' ⟨he, bel⟩ => ?_
  subst he
  exact ⟨_, rfl, _, _, _, [], _, [], hW', trodAll_mk1 (shut_bool Try.underlying4 _), (trodAll_cons_mk (Below.trod laidOut (by kernel_rfl) (of_decide_eq_true (by kernel_rfl)) k0 bel lt0) trodAll_mk0), rfl, bel.frame _, fun h => by cases h⟩

theorem over : Rows.fnPrefixesRow.holds Try.pinned (OpenSpec.ofChange Rows.fnPrefixesSpec) :=
  OpenClaim.holds_of_wide 6 Try.f6 rfl rfl rfl rfl rfl rfl rfl ⟨rfl, rfl, rfl, rfl, rfl⟩ rfl rfl rfl rfl rfl (by kernel_rfl) Try.func6 (by kernel_rfl)
    (of_decide_eq_true (by kernel_rfl)) (by unfold Func.isWrapper; first | (rw [if_pos (by decide +kernel)]; kernel_rfl) | (rw [if_neg (by decide +kernel)]; exact ⟨rfl, rfl⟩))
    (fun os started H enc _ => lifted os started H enc)

theorem proved : Rows.FnPrefixesSaid := over
end Go.Proofs.Ytdgolhcekomcmaa.fnPrefixes
