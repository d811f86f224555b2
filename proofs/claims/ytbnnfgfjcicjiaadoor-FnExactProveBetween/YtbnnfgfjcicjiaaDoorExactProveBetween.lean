/- The statement FnExactProveBetweenCardSaid: at every slice of pairs and every two texts FnExactProveBetween answers true, and the arguments read afterwards as before, where the table of the rounds' words is as the program's text lays it (the card ties it). No condition besides the row's own. -/
import Derived.Test.YtbnnfgfjcicjiaaDoorRows
import Derived.Test.YtbnnfgfjcicjiaaDoorCards
import Derived.Test.YtbnnfgfjcicjiaaDoorTie
import Derived.Test.YtbnnfgfjcicjiaaDoorRangeX
import Derived.Test.YtbnnfgfjcicjiaaDoorRangeQ
import Derived.Test.YtbnnfgfjcicjiaaDoorDoor
import Derived.ProofKit
import Derived.OpenShut
import Derived.ShutString
import Derived.ChangeOld
import Derived.Below
namespace Go.Proofs.YtbnnfgfjcicjiaaDoor.fnExactProveBetween
open Go.ChangeShapes Go.WideShapes Go.ChangeAt Go.RowKit
open Go.ChangeMaps (open_string shut_string)
set_option linter.unusedVariables false
open Go.Proofs.YtbnnfgfjcicjiaaDoor.base Go.Proofs.YtbnnfgfjcicjiaaDoor.pairs Go.Proofs.YtbnnfgfjcicjiaaDoor.tree Go.Proofs.YtbnnfgfjcicjiaaDoor.range

theorem items_le (l : List Pr) (lo hi : ByteArray) : (prove l lo hi).items.length ≤ 60 ∧ cnt (prove l lo hi).items ≤ 60 * 62 := by
  unfold prove
  by_cases h : pairsOk l = true
  · rw [if_pos h]
    have hl : l.length ≤ 60 := ((pairsOk_iff l).1 h).2
    have ht := toN_le lo hi l
    have h1 : (itemsTo l (fromN lo l) (toN lo hi l)).length ≤ 60 := by rw [itemsTo_length]; omega
    refine ⟨h1, ?_⟩
    have hx : ∀ x ∈ itemsTo l (fromN lo l) (toN lo hi l), x.2.length ≤ 60 := by
      intro x hx
      unfold itemsTo at hx
      obtain ⟨i, _, rfl⟩ := List.mem_map.1 hx
      have := path_length l i
      have := depth_le i l.length
      unfold itemAt
      show (path l i).length ≤ 60
      omega
    have key : ∀ (l : List It), (∀ x ∈ l, x.2.length ≤ 60) → cnt l ≤ l.length * 62 := by
      intro l
      induction l with
      | nil => intro _; simp [cnt]
      | cons x l ih =>
        intro hh
        rw [cnt_cons, List.length_cons]
        have := ih (fun y hy => hh y (List.mem_cons_of_mem _ hy))
        have := hh x List.mem_cons_self
        omega
    have := key _ hx
    show cnt (itemsTo l (fromN lo l) (toN lo hi l)) ≤ _
    omega
  · rw [if_neg h]; exact ⟨by simp [zeroPrf], by simp [zeroPrf, cnt]⟩

set_option maxRecDepth 100000 in
set_option maxHeartbeats 4000000 in
theorem walk (a0 : Option Addr) (len0 cap0 : Nat) (b0 : List Pr) (lo hi : ByteArray) (w : World) (w0 : SlP w a0 len0 b0) (s1 : lo.size ≤ maxLen) (s2 : hi.size ≤ maxLen) (hK : sha.KW w) :
    Calls Tryd.prog 4 #[.slice a0 len0 cap0, .string lo, .string hi] w fun e w' => e = .returned (.bool true) ∧ Below w.heap.size w w' := by
  have hl0 := w0.1
  by_cases hlo : 1048576 < lo.size
  · have hloi : (1048576 : Int) < (lo.size : Int) := by omega
    go_enter Tryd.func4, Tryd.ntmps4
    go_wp2_with fail
    go_ret
    exact ⟨rfl, Below.refl _ _⟩
  have hloi : ¬ (1048576 : Int) < (lo.size : Int) := by omega
  by_cases hhi : 1048576 < hi.size
  · have hhii : (1048576 : Int) < (hi.size : Int) := by omega
    go_enter Tryd.func4, Tryd.ntmps4
    go_wp2_with fail
    go_ret
    exact ⟨rfl, Below.refl _ _⟩
  have hhii : ¬ (1048576 : Int) < (hi.size : Int) := by omega
  have hsz := szPairS a0 len0 cap0 b0 1048576 w w0 (by omega)
  by_cases hover : 1048576 < b0.length + sumP b0
  · rw [szR_neg hover] at hsz
    have HZ := Hid.mk' hsz
    clear hsz
    go_enter Tryd.func4, Tryd.ntmps4
    go_wp2_with fail
    refine HZ.out.mono ?_
    rintro e wa ⟨rfl, hB⟩
    go_wp2_with fail
    go_ret
    exact ⟨rfl, hB⟩
  · rw [szR_pos (by omega)] at hsz
    obtain ⟨r, hr⟩ : ∃ r : Nat, ((1048576 : Nat) : Int) - ((b0.length + sumP b0 : Nat) : Int) = (r : Int) := ⟨1048576 - (b0.length + sumP b0), by omega⟩
    rw [hr] at hsz
    have HZ := Hid.mk' hsz
    clear hsz hr
    have hks : ∀ p ∈ b0, lim p := fun p hp => by have := psz_le b0 p hp; unfold psz at this; exact ⟨by omega, by omega⟩
    obtain ⟨hI1, hI2⟩ := items_le b0 lo hi
    have HSP := Hid.mk' (fun g wx (h : SlP wx (some ⟨g, 0, none⟩) len0 b0) => spec_proveBetween g 0 len0 len0 b0 lo hi wx h (Nat.le_refl _) hks)
    have HIP := Hid.mk' (fun g wx (h : SlP wx (some ⟨g, 0, none⟩) len0 b0) (hk : sha.KW wx) => impl_proveBetween g 0 len0 len0 b0 lo hi wx h (Nat.le_refl _) hks (by omega) (by omega) hk)
    generalize prove b0 lo hi = F at *
    obtain ⟨n, fr, L⟩ := F
    simp only at hI1 hI2 HSP HIP
    go_enter Tryd.func4, Tryd.ntmps4
    go_wp2_with fail
    refine HZ.out.mono ?_
    rintro e w9 ⟨rfl, hB0⟩
    go_wp2_with fail
    refine (toPairS a0 len0 cap0 b0 _ (w0.below hB0) (by omega)).mono ?_
    rintro e wa ⟨g1, rfl, hO1, hB1'⟩
    have hB1 := hB0.trans (hB1'.mono hB0.size)
    go_wp2_with fail
    refine (HSP.out g1 _ hO1.sl).mono ?_
    rintro e wb ⟨sa, sm, sc, hss, rfl, hOs, hBs⟩
    have hBs' := hB1.trans (hBs.mono hB1.size)
    have hba : Below wb.heap.size wb (wb.alloc (.cells #[.int .i64 n, .int .i64 fr, .slice sa sm sc] 29)) := (Below.refl _ _).alloc (Nat.le_refl _) _
    have hv : V3 (wb.alloc (.cells #[.int .i64 n, .int .i64 fr, .slice sa sm sc] 29)) wb.heap.size 29 (.int .i64 n) (.int .i64 fr) (.slice sa sm sc) := heap_alloc_new wb _
    have hBa := hBs'.trans (hba.mono hBs'.size)
    have hOs2 := (hOs.mono (base' := w.heap.size) hB1.size).below hba
    have hls : ∀ k, Blk (.slice sa sm sc) hss k → k < wb.heap.size := fun k hk => (hOs.lt k hk).2
    have HT := Hid.mk' (fun wx hx => toPairS a0 len0 cap0 b0 wx (w0.below hx) (by omega))
    have HV := Hid.mk' hv
    have HOS := Hid.mk' hOs2
    have HLS := Hid.mk' hls
    have hwb : w.heap.size ≤ wb.heap.size := hBs'.size
    clear hO1 hB1' hB1 hOs hBs hBs' hba hv hOs2 hls HSP HZ hB0
    go_wp2_with fail
    refine (HT.out _ hBa).mono ?_
    rintro e wc ⟨gx, rfl, hOx, hBx⟩
    have hBx' := hBa.trans (hBx.mono hBa.size)
    have hV := HV.out.below hBx
    have hOS := HOS.out.below hBx
    have HV2 := Hid.mk' hV
    have HOS2 := Hid.mk' hOS
    have HOX := Hid.mk' hOx
    have hgx : wb.heap.size < gx := by have := hOx.lt.1; simp at this; omega
    clear hBx HV HOS hOx hV hOS hBa
    go_wp2_with fail
    refine (HIP.out gx _ HOX.out.sl (hK.below hBx')).mono ?_
    rintro e wd ⟨ga, gm, gc, hsg, rfl, hOg, hBg⟩
    have hba : Below wd.heap.size wd (wd.alloc (.cells #[.int .i64 n, .int .i64 fr, .slice ga gm gc] 29)) := (Below.refl _ _).alloc (Nat.le_refl _) _
    have hvg : V3 (wd.alloc (.cells #[.int .i64 n, .int .i64 fr, .slice ga gm gc] 29)) wd.heap.size 29 (.int .i64 n) (.int .i64 fr) (.slice ga gm gc) := heap_alloc_new wd _
    have hBd := hBx'.trans (hBg.mono hBx'.size)
    have T1 : QuadR w (wd.alloc (.cells #[.int .i64 n, .int .i64 fr, .slice ga gm gc] 29)) n fr L L b0 gx len0 len0 wc.heap.size wb.heap.size wd.heap.size sa ga sm sc gm gc hss hsg :=
      ⟨hBd.trans (hba.mono hBd.size), ((HOX.out.mono (base' := w.heap.size) (by simp; omega)).below hBg).below hba, (HOS2.out.below hBg).below hba, hOg.below hba, (HV2.out.below hBg).below hba, hvg, HLS.out, hgx, HOX.out.lt.2, fun k hk => (hOg.lt k hk).2, hwb, Nat.le_trans hBg.size hba.size⟩
    have hbg : wc.heap.size ≤ wd.heap.size := hBg.size
    clear hba hvg hBd hOg hBg HOX HOS2 HV2 HLS hgx hBx'
    have e1 := T1.g.sl.1
    have e2 := T1.s.sl.1
    obtain rfl : gm = sm := by omega
    clear e1
    have HT1 := Hid.mk' T1
    clear T1
    obtain ⟨p0, p1, p2, q0, q1, q2⟩ := HT1.out.cells
    go_wp2_with fail
    refine (eqProofT n fr ga sa gm gc sc L _ HT1.out.g.sl HT1.out.s.sl).mono ?_
    rintro e y2 ⟨rfl, hB⟩
    have T2 := HT1.out.below hB
    clear hB HT1
    clear p0 p1 p2 q0 q1 q2
    have HT2 := Hid.mk' T2
    clear T2
    go_wp2_with fail
    refine (HT.out _ HT2.out.bel).mono ?_
    rintro e y3 ⟨gy, rfl, hOy, hBy⟩
    have T3 := HT2.out.below hBy
    have HOY := Hid.mk' hOy
    clear HT2 hBy hOy
    have HT3 := Hid.mk' T3
    clear T3
    go_wp2_with fail
    refine (eqP _ _ _ _ _ _ _ _ _ HT3.out.x.sl HOY.out.sl rfl).mono ?_
    rintro e y4 ⟨rfl, hB⟩
    have T4 := HT3.out.below hB
    clear HT3 hB HOY
    have HT4 := Hid.mk' T4
    clear T4
    go_wp2_with fail
    refine (markP _ _ _ _ 1 _ _ HT4.out.x (by omega) (by omega) (by omega) _ (by show _ = _; rfl)).mono ?_
    rintro e y5 ⟨rfl, hx5, hg5⟩
    have T5 := HT4.out.markX hbg hx5 hg5
    clear HT4 hx5 hg5
    have HT5 := Hid.mk' T5
    clear T5
    obtain ⟨p0, p1, p2, q0, q1, q2⟩ := HT5.out.cells
    go_wp2_with fail
    refine (eqProofT n fr ga sa gm gc sc L _ HT5.out.g.sl HT5.out.s.sl).mono ?_
    rintro e y6 ⟨rfl, hB⟩
    have T6 := HT5.out.below hB
    clear hB HT5
    clear p0 p1 p2 q0 q1 q2
    have HT6 := Hid.mk' T6
    clear T6
    obtain ⟨p0, p1, p2, q0, q1, q2⟩ := HT6.out.cells
    go_wp2_with fail
    refine (markProof1 n fr _ _ L hsg _ HT6.out.g HT6.out.bw (by omega) (by omega)).mono ?_
    rintro e y7 ⟨rfl, ho7, hk7⟩
    have T7 := HT6.out.markG ho7 hk7
    clear HT6 ho7 hk7
    clear p0 p1 p2 q0 q1 q2
    have HT7 := Hid.mk' T7
    clear T7
    obtain ⟨p0, p1, p2, q0, q1, q2⟩ := HT7.out.cells
    go_wp2_with fail
    refine (heldProof1 n fr ga gm gc L _ HT7.out.g.sl (by omega) (by omega)).mono ?_
    rintro e y8 ⟨rfl, hB⟩
    have T8 := HT7.out.below hB
    clear HT7 hB
    clear p0 p1 p2 q0 q1 q2
    have HT8 := Hid.mk' T8
    clear T8
    have hmm : ((1 + cnt L : Nat) : Int) = 1 + (cnt L : Int) := by omega
    go_wp2_with fail
    refine (HT.out _ HT8.out.bel).mono ?_
    rintro e y9 ⟨gz, rfl, hOz, hBz⟩
    have T9 := HT8.out.below hBz
    have HOZ := Hid.mk' hOz
    clear HT8 hBz hOz
    have HT9 := Hid.mk' T9
    clear T9
    go_wp2_with fail
    refine (HIP.out gz _ HOZ.out.sl (hK.below HT9.out.bel)).mono ?_
    rintro e yd ⟨ha, hm, hc, hsh, rfl, hOh, hBh⟩
    have hba : Below yd.heap.size yd (yd.alloc (.cells #[.int .i64 n, .int .i64 fr, .slice ha hm hc] 29)) := (Below.refl _ _).alloc (Nat.le_refl _) _
    have T10 := (HT9.out.below hBh).below hba
    have hvh : V3 (yd.alloc (.cells #[.int .i64 n, .int .i64 fr, .slice ha hm hc] 29)) yd.heap.size 29 (.int .i64 n) (.int .i64 fr) (.slice ha hm hc) := heap_alloc_new yd _
    have hOh2 := (hOh.below hba).sl
    have e3 := hOh2.1
    obtain rfl : hm = gm := by omega
    have HOH := Hid.mk' hOh2
    clear HT9 hOh hBh hba HOZ hOh2
    obtain ⟨p0, p1, p2, q0, q1, q2⟩ := T10.cells
    have HT10 := Hid.mk' T10
    clear T10 hvh e3
    go_wp2_with fail
    refine (eqProofT n fr ha sa hm hc sc L _ HOH.out HT10.out.s.sl).mono ?_
    rintro e y11 ⟨rfl, hB⟩
    have T11 := HT10.out.below hB
    clear HT10 hB HOH
    clear p0 p1 p2 q0 q1 q2
    have HT11 := Hid.mk' T11
    clear T11
    obtain ⟨p0, p1, p2, q0, q1, q2⟩ := HT11.out.cells
    go_wp2_with fail
    refine (heldProof1 n fr ga hm gc L _ HT11.out.g.sl (by omega) (by omega)).mono ?_
    rintro e y12 ⟨rfl, hB⟩
    have T12 := HT11.out.below hB
    clear HT11 hB
    clear p0 p1 p2 q0 q1 q2
    go_wp2_with fail
    go_ret
    exact ⟨rfl, T12.bel⟩

set_option maxRecDepth 100000 in
theorem lifted (os : Os) (started : os.Started) (H : Type) (enc : TypeId × Value → H) :
    ReturnsInHanded {} Tryd.checked os 4 .any (fun w args => (Rows.fnExactProveBetweenSpec.pre enc Tryd.prog Tryd.f4 [] false w args ∧ laidMetH Tryd.prog door.laidD w) ∧ sizedMet enc Tryd.prog Tryd.f4 (OpenSpec.ofChange Rows.fnExactProveBetweenSpec) false w args)
      (Rows.fnExactProveBetweenSpec.post enc Tryd.prog Tryd.f4 false true false false) := by
  refine returnsInHanded_of_change_and (C := Tryd.checked) (X := fun w _ => laidMetH Tryd.prog door.laidD w) (fun _ _ _ hh h => h.of_heap hh) door.own started (by kernel_rfl) Tryd.func4
    (ChangeSpec.witness_shaped (enc := enc) (C := Tryd.checked) (os := os) (X := fun w _ => laidMetH Tryd.prog door.laidD w) false (World.laidAll Tryd.prog os door.laidD) #[.slice none 0 0, .string ByteArray.empty, .string ByteArray.empty] 70 (World.laidAll_os _ _ _) (World.shaped_of_ZipB (by kernel_rfl) (by kernel_rfl)) (by kernel_rfl) (by kernel_rfl) (by kernel_rfl)
      (by rw [MakeChecks.laidMetH_plain _ _ _ (by kernel_rfl)]; exact laidMet_laidAll _ (by kernel_rfl) (by kernel_rfl))) ?_
  intro W base args ds gs before hval0 hW _ _ hL _
  have hval : ∀ (j : Nat) t v, Tryd.f4.params[j]? = some t → args[j]? = some v → Value.okWide Tryd.prog W .any base t v := hval0
  have hW' := hW
  obtain ⟨p, q, hA0, hV, rfl, hfz, hnd⟩ := hW
  have hA : DataW.TrodAll enc Tryd.prog W 0 (fun _ => true) true Tryd.f4.params.toList args.toList ds p := hA0
  rw [Tryd.params4] at hA hval
  obtain ⟨v0, vs0, d0, ds0, p0, q0, hargs, rfl, rfl, h0, r0⟩ := trodAll_cons hA
  obtain ⟨v1, vs1, d1, ds1, p1, q1, rfl, rfl, rfl, h1, r1⟩ := trodAll_cons r0
  obtain ⟨v2, vs2, d2, ds2, p2, q2, rfl, rfl, rfl, h2, r2⟩ := trodAll_cons r1
  obtain ⟨rfl, rfl, rfl⟩ := trodAll_nil r2
  obtain rfl : args = #[v0, v1, v2] := by cases args; simp_all
  obtain ⟨gv, tv, csv, fv, dv, pv, rfl, _, _, _, _, _⟩ := trodVars_one (show DataW.TrodVars enc Tryd.prog W (fun _ => true) ["loop.example/g00244/impl.roundWords"] gs q from hV)
  obtain ⟨a0, len0, cap0, rfl⟩ := okWide_slice Tryd.underlying40 (hval 0 40 v0 rfl rfl)
  have k0 := h0
  have lt0 : ∀ x ∈ p0, x.block < W.heap.size := by obtain ⟨m, hm⟩ := k0; exact DataW.trod_lt m _ _ _ hm
  obtain ⟨b0, w0⟩ : ∃ l, SlP W a0 len0 l := by obtain ⟨fuel, hf⟩ := h0; exact slp_arg 40 70 _ _ Tryd.underlying40 Tryd.underlying70 (by kernel_rfl) rfl rfl rfl rfl (by kernel_rfl) hf
  obtain ⟨a1, rfl, rfl, rfl, w1⟩ := open_string Tryd.underlying9 (hval 1 9 v1 rfl rfl) h1
  obtain ⟨a2, rfl, rfl, rfl, w2⟩ := open_string Tryd.underlying9 (hval 2 9 v2 rfl rfl) h2
  clear hA0 hval0
  refine (walk a0 len0 cap0 b0 a1 a2 W w0 w1 w2 (door.words_of_laid hL)).mono fun e W' ⟨he, bel⟩ => ?_
  subst he
  exact ⟨_, rfl, _, _, _, [], _, _, hW', trodAll_mk1 (shut_bool Tryd.underlying4 _), (trodAll_cons_mk (Below.trod door.laidOut (by kernel_rfl) (of_decide_eq_true (by kernel_rfl)) k0 bel lt0) (trodAll_cons_mk (shut_string Tryd.underlying9 w1) (trodAll_cons_mk (shut_string Tryd.underlying9 w2) trodAll_mk0))), bel.trodVars door.laidOut (by kernel_rfl) hV, bel.frame _, fun h => by cases h⟩

theorem over : Rows.fnExactProveBetweenRow.holds Tryd.pinned (OpenSpec.ofChange Rows.fnExactProveBetweenSpec) :=
  OpenClaim.holds_of_wide 4 Tryd.f4 rfl rfl rfl rfl rfl rfl rfl ⟨rfl, rfl, rfl, rfl, rfl⟩ rfl rfl rfl rfl rfl (by kernel_rfl) Tryd.func4 (by kernel_rfl)
    (of_decide_eq_true (by kernel_rfl)) (by unfold Func.isWrapper; first | (rw [if_pos (by decide +kernel)]; kernel_rfl) | (rw [if_neg (by decide +kernel)]; exact ⟨rfl, rfl⟩))
    (fun os started H enc _ => lifted os started H enc)

theorem proved : Rows.FnExactProveBetweenCardSaid :=
  Claim7.holds_tied_plain_at .later [] [.data] true (true, "5ee2f7e397cb7f7d92f096e124c74496210dbfab494880374f6aebad26a915e6") false
    over (fun _ h => by cases h) (by kernel_rfl) (fun _ h => by cases h) fnExactProveBetween_row_tie rfl ⟨rfl, rfl⟩ (by kernel_rfl) rfl
    (fun f fn hf hfn => by
      obtain rfl : f = 4 := Option.some.inj ((show Tryd.prog.funcNamed "loop.example/g00244/laws.FnExactProveBetween" = some 4 by kernel_rfl).symm.trans hf) |>.symm
      obtain rfl : fn = Tryd.f4 := (Option.some.inj (Tryd.func4.symm.trans hfn)).symm
      exact ⟨by kernel_rfl, fun j t ht => by
        rw [Tryd.params4] at ht
        have hm : t ∈ [40, 9, 9] := by simpa using Array.mem_of_getElem? ht
        have hall : ([40, 9, 9].all fun u => !Tryd.prog.wantsStandIn u) = true := by kernel_rfl
        exact (show Tryd.prog.wantsStandIn t = false by simpa using List.all_eq_true.1 hall t hm)⟩)
    (by kernel_rfl)
end Go.Proofs.YtbnnfgfjcicjiaaDoor.fnExactProveBetween
