/- The statement FnFlippedCardSaid: at every slice of bytes FnFlipped answers true, and the slice reads afterwards as before, where the table of the rounds' words and the type of errors are as the program's text lays them (the card ties them). No condition besides the row's own. -/
import Derived.Test.YtooiinicnkhlbaaDoorRows
import Derived.Test.YtooiinicnkhlbaaDoorCards
import Derived.Test.YtooiinicnkhlbaaDoorTie
import Derived.Test.YtooiinicnkhlbaaDoorBund8ay
import Derived.Test.YtooiinicnkhlbaaDoorBund8az
import Derived.Test.YtooiinicnkhlbaaDoorBund8ax
import Derived.Test.YtooiinicnkhlbaaDoorBund8xa
import Derived.Test.YtooiinicnkhlbaaDoorBund8bc
import Derived.ProofKit
import Derived.OpenShut
import Derived.ShutString
import Derived.ChangeOld
import Derived.Below
namespace Go.Proofs.YtooiinicnkhlbaaDoor.fnFlipped
open Go.ChangeShapes Go.WideShapes Go.ChangeAt Go.RowKit
open Go.ChangeMaps (open_string shut_string)
set_option linter.unusedVariables false
open Go.Proofs.YtooiinicnkhlbaaDoor.base Go.Proofs.YtooiinicnkhlbaaDoor.pairs Go.Proofs.YtooiinicnkhlbaaDoor.ords Go.Proofs.YtooiinicnkhlbaaDoor.draw Go.Proofs.YtooiinicnkhlbaaDoor.helps Go.Proofs.YtooiinicnkhlbaaDoor.recs Go.Proofs.YtooiinicnkhlbaaDoor.turn

theorem not_again {T : List UInt8} {r x : Rc} {q' q : Nat} {u : UInt8} (hT : T = recBytes r) (hq : q < T.length) (hu : u.toNat ≠ (T.getD q 0).toNat) (h : getRec (T.set q u) 0 = some (x, q')) : ¬ (x.1, x.2.1, x.2.2) = (r.1, r.2.1, r.2.2) := by
  intro e
  have ex : x = r := e
  subst ex
  obtain ⟨_, h2, h3, _⟩ := getRec_some h
  rw [← hT] at h3
  have hl := congrArg List.length h3
  rw [List.length_take, List.length_set] at hl
  rw [List.take_of_length_le (by rw [List.length_set]; omega)] at h3
  have h4 := congrArg (·.getD q 0) h3
  simp [List.getD, hq] at h4
  apply hu
  rw [h4]
  simp [List.getD, hq]

set_option maxRecDepth 100000 in
set_option maxHeartbeats 4000000 in
theorem walk (a0 : Option Addr) (len0 cap0 : Nat) (b0 : List UInt8) (w : World) (w0 : Sl w a0 len0 b0) (hK : KR w) :
    Calls Tryd.prog 6 #[.slice a0 len0 cap0] w fun e w' => e = .returned (.bool true) ∧ Below w.heap.size w w' := by
  have hm := w0.2.1
  have hb := big_ a0 len0 cap0 w hm
  by_cases hbig : 1048576 < len0
  · rw [decide_eq_true (by omega)] at hb
    have HB := Hid.mk' hb
    clear hb
    go_enter Tryd.func6, Tryd.ntmps6
    go_wp2_with fail
    refine HB.out.mono ?_
    rintro e wa ⟨rfl, rfl⟩
    go_wp2_with fail
    go_ret
    exact ⟨rfl, Below.refl _ _⟩
  rw [decide_eq_false (by omega)] at hb
  have HB := Hid.mk' hb
  clear hb
  go_enter Tryd.func6, Tryd.ntmps6
  go_wp2_with fail
  refine HB.out.mono ?_
  rintro e wa ⟨rfl, hwa⟩
  subst hwa
  clear HB
  go_wp2_with fail
  refine (drawRecs a0 len0 cap0 b0 _ w0 (by omega)).mono ?_
  rintro e w1 ⟨l, g, cp, hs, hl5, hall, rfl, hO1, hB1⟩
  have HKW : Hid (∀ wx, Below w1.heap.size w1 wx → KR wx) := fun wx hx => (hK.below hB1).below hx
  by_cases hl0 : l.length = 0
  · have HR0 : Hid (∀ wx, Calls Tryd.prog 14 #[.agg #[.int .i64 0, .int .i64 0, .slice none 0 0]] wx fun e w' => e = .returned (.bool false) ∧ Below wx.heap.size wx w') := fun wx => impl_recOk 0 0 none 0 0 [] wx (slo_nil _ _) (fun p hp => absurd hp List.not_mem_nil)
    have HR1 : Hid (∀ wx, Calls Tryd.prog 14 #[.agg #[.int .i64 2, .int .i64 1, .slice none 0 0]] wx fun e w' => e = .returned (.bool true) ∧ Below wx.heap.size wx w') := fun wx => impl_recOk 2 1 none 0 0 [] wx (slo_nil _ _) (fun p hp => absurd hp List.not_mem_nil)
    have HP0 : Hid (∀ wx, Below w1.heap.size w1 wx → Calls Tryd.prog 12 #[.agg #[.int .i64 0, .int .i64 0, .slice none 0 0]] wx fun e w' => ∃ g' cap', e = .returned (.slice (some ⟨g', 0, none⟩) 0 cap') ∧ Below wx.heap.size wx w') := fun wx hx => (impl_putRec 0 0 none 0 0 [] wx (slo_nil _ _) (fun p hp => absurd hp List.not_mem_nil) (HKW.out _ hx).1).mono (by
      rintro e w' ⟨g', n', cap', rfl, hO, hb⟩
      have e0 : n' = 0 := by have := hO.1; rw [show putRec (0, 0, []) = [] by decide] at this; exact this.symm
      subst e0
      exact ⟨g', cap', rfl, hb⟩)
    rw [hl0]
    clear hO1 hall hl5
    go_wp2_with fail
    refine (HR0.out _).mono ?_
    rintro e w2 ⟨rfl, hb2⟩
    go_wp2_with fail
    refine (HP0.out _ hb2).mono ?_
    rintro e w3 ⟨g3, c3, rfl, hb3⟩
    have hX3 := hb2.trans (hb3.mono hb2.size)
    go_wp2_with fail
    refine (HR1.out _).mono ?_
    rintro e w4 ⟨rfl, hb4⟩
    have hX4 := hX3.trans (hb4.mono hX3.size)
    go_wp2_with fail
    go_ret
    exact ⟨rfl, hB1.trans (hX4.mono hB1.size)⟩
  · have h0 : 0 < l.length := by omega
    obtain ⟨c0, c1, c2⟩ := hO1.at 0 h0
    have hop := hO1.ops 0 h0
    have hlen := hO1.len
    have hrk := hall _ (List.getElem_mem h0)
    generalize hr : l[0] = r at *
    generalize hs[0]'(by omega) = v0 at *
    obtain ⟨k, t, ops⟩ := r
    simp only [] at c0 c1 hop
    rw [Nat.zero_mul] at c0
    rw [Nat.zero_mul, Nat.zero_add] at c1 c2
    obtain ⟨pa, pc, hvv, hslo, _⟩ := hop.sl
    obtain ⟨n, hn⟩ : ∃ n, ops.length = n := ⟨_, rfl⟩
    rw [hn] at hvv hslo
    subst hvv
    have hks : Hid (∀ p ∈ ops, p.2.1.size ≤ 1099511627776) := recOk_keys hrk
    have HSL : Hid (∀ wx, Below w1.heap.size w1 wx → SlO wx pa n ops) := fun wx hx => hslo.below hx
    have HPU := Hid.mk' (impl_putRec k t pa n pc ops w1 hslo hks.out (HKW.out _ (Below.refl _ _)).1)
    have hgl : g < w1.heap.size := (hO1.row.lt g rfl).2
    have HC : Hid (∀ wx, Below w1.heap.size w1 wx → wx.cell? ⟨g, 0, none⟩ = some (.int .i64 k) ∧ wx.cell? ⟨g, 1, none⟩ = some (.int .i64 t) ∧ wx.cell? ⟨g, 2, none⟩ = some (.slice pa n pc)) := fun wx hx => ⟨(hx.cell (p := ⟨g, 0, none⟩) hgl).trans c0, (hx.cell (p := ⟨g, 1, none⟩) hgl).trans c1, (hx.cell (p := ⟨g, 2, none⟩) hgl).trans c2⟩
    have hli : (0 : Int) < (l.length : Int) := by omega
    have hln0 : ((l.length : Int) == 0) = false := beq_eq_false_iff_ne.2 (by omega)
    clear hO1 hall hop hslo hr hlen h0 hl0
    generalize l.length = L at *
    go_wp2_with fail
    refine HPU.out.mono ?_
    rintro e w3 ⟨gb, nb, cb, rfl, hO3, hb3⟩
    have hpr : putRec (k, t, ops) = recBytes (k, t, ops) := by unfold putRec; rw [hrk]; rfl
    rw [hpr] at hO3
    have hlb := hO3.1
    have hsr := rec_small (k, t, ops)
    have hpos : 0 < nb := by
      have h4 := sum4_length (bodyOf (k, t, ops))
      have h5 : 4 ≤ (recBytes (k, t, ops)).length := by simp only [recBytes, List.length_append]; omega
      omega
    obtain ⟨T, hT⟩ : ∃ T, T = recBytes (k, t, ops) := ⟨_, rfl⟩
    rw [← hT] at hO3 hlb hsr
    have hmx := hO3.max
    have hcb : nb ≤ cb := hmx.1
    have HT := Hid.mk' hT
    have hgb := hO3.lt
    have HAT : Hid (∀ (i : Nat) wx, i ≤ 3 → Below w1.heap.size w1 wx → Calls Tryd.prog 16 #[.slice a0 len0 cap0, .int .i64 (i : Int)] wx fun e w' => ∃ x : Nat, x < 256 ∧ e = .returned (.int .i64 (x : Int)) ∧ w' = wx) := fun i wx hi hx => at_ a0 len0 cap0 b0 i wx ((w0.below hB1).below hx) (by omega) (by omega)
    have HAT2 := Hid.mk' (HAT.out 2 w3 (by omega) hb3)
    have HAT3 := Hid.mk' (HAT.out 3 w3.drew (by omega) hb3.drew)
    rw [show ((2 : Nat) : Int) = 2 from rfl] at HAT2
    rw [show ((3 : Nat) : Int) = 3 from rfl] at HAT3
    have hnz : ((nb : Int) == 0) = false := beq_eq_false_iff_ne.2 (by omega)
    have hnz2 : ¬ (nb : Int) = 0 := by omega
    clear HPU hpr hT HAT hmx c0 c1 c2
    go_wp2_with fail
    refine HAT2.out.mono ?_
    rintro e w4 ⟨x, hx, rfl, hw4⟩
    subst hw4
    obtain ⟨q, hq, hq1, hq2⟩ := rem_q x nb hpos
    have hql : q < T.length := by omega
    have hcq := hO3.at q hql
    have hfq := hO3.frozen q
    have hqi : (q : Int) < (nb : Int) := by omega
    obtain ⟨c, hc⟩ : ∃ c, c = T[q].toNat := ⟨_, rfl⟩
    have hc256 : c < 256 := by rw [hc]; exact UInt8.toNat_lt _
    rw [← hc] at hcq
    have HCC : Hid (c = (T.getD q 0).toNat) := by show _ = _; rw [hc]; simp [List.getD, hql]
    clear HAT2 hc
    go_wp2_with fail
    go_region_with (go_at_call 16; refine HAT3.out.mono ?_; rintro e wx ⟨y, hy, rfl, hwx⟩; subst hwx; obtain ⟨r, hr8, hr3, hr4⟩ := rem_q8 y)
    all_goals
      first | rw [shiftA r hr8] | rw [shiftB r hr8]
      obtain ⟨u, hu1, hu2⟩ := turned c r hc256 hr8
      rw [hu1]
      obtain ⟨R1, R2⟩ := own_set hO3 q u
      have hO7 : Own (w4.setCell ⟨gb, q, none⟩ (.int .u8 (u.toNat : Int))).drew w1.heap.size gb nb cb (T.set q u) := R1
      have hX7 : Below w1.heap.size w1 (w4.setCell ⟨gb, q, none⟩ (.int .u8 (u.toNat : Int))).drew := (hb3.grown R2 hb3.size (fun j e => by cases e; exact hgb.1)).drew
      have HNA : Hid (∀ x q', getRec (T.set q u) 0 = some (x, q') → ¬ (x.1, x.2.1, x.2.2) = (k, t, ops)) := fun x q' h => not_again (r := (k, t, ops)) HT.out hql (by rw [← HCC.out]; exact hu2) h
      generalize (w4.setCell ⟨gb, q, none⟩ (.int .u8 (u.toNat : Int))).drew = w7 at *
      have hTl : (T.set q u).length = nb := hO7.1
      generalize T.set q u = T2 at *
      have HGI : Hid (∀ wx, Below w7.heap.size w7 wx → Below w1.heap.size w1 wx → Calls Tryd.prog 15 #[.slice (some ⟨gb, 0, none⟩) nb cb, .int .i64 0] wx fun e w' => RecPost wx 0 (getRec T2 0) e w') := fun wx hx hy => impl_getRec (some ⟨gb, 0, none⟩) nb cb 0 T2 wx (hO7.sl.below hx) hcb (by omega) (by decide) (HKW.out _ hy)
      have HGS : Hid (∀ wx, Below w7.heap.size w7 wx → Calls Tryd.prog 19 #[.slice (some ⟨gb, 0, none⟩) nb cb, .int .i64 0] wx fun e w' => RecPost wx 0 (getRec T2 0) e w') := fun wx hx => spec_getRec (some ⟨gb, 0, none⟩) nb cb 0 T2 wx (hO7.sl.below hx) hcb (by omega) (by decide)
      clear R1 R2 hu1 hu2 hO3 hcq hfq hb3 hO7 HCC HAT3 hr3 hr4 hq1 hq2
      rcases hg : getRec T2 0 with _ | ⟨x, q'⟩
      · rw [hg] at HGI HGS
        clear hg HNA
        go_wp2_with fail
        refine ((HGI.out _ (Below.refl _ _) hX7).mono fun e w' hp => recPost_open (k := 0) (t := 0) (q := 0) (L := []) (ok := false) rfl rfl rfl hp).mono ?_
        rintro e w8 ⟨xa, xn, xc, rfl, hV8, hb8⟩
        have hba : Below w8.heap.size w8 (w8.alloc (.cells #[.int .i64 0, .int .i64 0, .slice xa xn xc] 26)) := (Below.refl _ _).alloc (Nat.le_refl _) _
        have hb9 := hb8.trans (hba.mono hb8.size)
        go_wp2_with fail
        refine ((HGS.out _ hb9).mono fun e w' hp => recPost_open (k := 0) (t := 0) (q := 0) (L := []) (ok := false) rfl rfl rfl hp).mono ?_
        rintro e w10 ⟨ya, yn, yc, rfl, hV10, hb10⟩
        have hX10 := hX7.trans ((hb9.trans (hb10.mono hb9.size)).mono hX7.size)
        have hB10 := hB1.trans (hX10.mono hB1.size)
        have hB11 := hB10.alloc hB10.size (.cells #[.int .i64 0, .int .i64 0, .slice ya yn yc] 26)
        clear hV8 hV10 hb8 hb9 hba hb10 HGI HGS
        have hinh := last.On.inh w10.heap.size (w10.alloc (.cells #[.int .i64 0, .int .i64 0, .slice ya yn yc] 26))
        go_wp2_with fail
        refine last.wp_region_on w10.heap.size (by kernel_rfl) (by kernel_rfl) ?_
        repeat (go_big_quiet_step (fail))
        refine wpQuiet_nil ?_
        intro w12 hw12
        obtain ⟨x12, hw12⟩ := hw12
        have hb12 : Below w10.heap.size (w10.alloc (.cells #[.int .i64 0, .int .i64 0, .slice ya yn yc] 26)) w12 := by rw [hw12]; exact x12.2
        clear hw12 x12 hinh
        go_wp2_with fail
        go_ret
        exact ⟨rfl, hB11.trans (hb12.mono hB10.size)⟩
      · rw [hg] at HGI HGS
        have HNE : Hid (decide ((x.1, x.2.1, x.2.2) = (k, t, ops)) = false) := decide_eq_false (HNA.out x q' hg)
        clear hg HNA
        go_wp2_with fail
        refine ((HGI.out _ (Below.refl _ _) hX7).mono fun e w' hp => recPost_open (k := x.1) (t := x.2.1) (q := (q' : Int)) (L := x.2.2) (ok := true) rfl rfl rfl hp).mono ?_
        rintro e w8 ⟨xa, xn, xc, rfl, hV8, hb8⟩
        have hba : Below w8.heap.size w8 (w8.alloc (.cells #[.int .i64 x.1, .int .i64 x.2.1, .slice xa xn xc] 26)) := (Below.refl _ _).alloc (Nat.le_refl _) _
        have hb9 := hb8.trans (hba.mono hb8.size)
        have hT9 := boxR_new w8 x.1 x.2.1 (.slice xa xn xc)
        have hS9 := (ownV_slo hV8).below hba
        go_wp2_with fail
        refine ((HGS.out _ hb9).mono fun e w' hp => recPost_open (k := x.1) (t := x.2.1) (q := (q' : Int)) (L := x.2.2) (ok := true) rfl rfl rfl hp).mono ?_
        rintro e w10 ⟨ya, yn, yc, rfl, hV10, hb10⟩
        have hX10 := hX7.trans ((hb9.trans (hb10.mono hb9.size)).mono hX7.size)
        have hB10 := hB1.trans (hX10.mono hB1.size)
        have hB11 := hB10.alloc hB10.size (.cells #[.int .i64 x.1, .int .i64 x.2.1, .slice ya yn yc] 26)
        have hbn : Below w10.heap.size w10 (w10.alloc (.cells #[.int .i64 x.1, .int .i64 x.2.1, .slice ya yn yc] 26)) := (Below.refl _ _).alloc (Nat.le_refl _) _
        have hT10 := hT9.below hb10
        have hS10 := hS9.below hb10
        have hX11 := hX10.trans (hbn.mono hX10.size)
        have hinh := last.On.inh w10.heap.size (w10.alloc (.cells #[.int .i64 x.1, .int .i64 x.2.1, .slice ya yn yc] 26))
        have hcall : ∀ y : last.On w10.heap.size (w10.alloc (.cells #[.int .i64 x.1, .int .i64 x.2.1, .slice ya yn yc] 26)), Calls Tryd.prog 17 #[.agg #[.int .i64 x.1, .int .i64 x.2.1, .slice xa xn xc], .agg #[.int .i64 k, .int .i64 t, .slice pa n pc]] y.w fun e w' => e = .returned (.bool false) ∧ ∃ z : last.On w10.heap.size (w10.alloc (.cells #[.int .i64 x.1, .int .i64 x.2.1, .slice ya yn yc] 26)), w' = z.w := fun y => last.Calls.on y (by simp) (by
          have hy : Below w10.heap.size w10 y.w := hbn.trans y.2
          have := sameRecG x.1 x.2.1 k t xa pa xn xc n pc x.2.2 ops y.w (hS10.below hy) (HSL.out _ (hX10.trans (hy.mono hX10.size)))
          rw [HNE.out] at this
          exact this)
        have tl := hT10.lt
        obtain ⟨t0, t1, t2⟩ := (hT10.below hbn).cells
        obtain ⟨g0, g1, g2⟩ := HC.out _ hX11
        have hgl2 : g < w10.heap.size := Nat.lt_of_lt_of_le hgl hX10.size
        have u0 := last.On.cell t0 tl
        have u1 := last.On.cell t1 tl
        have u2 := last.On.cell t2 tl
        have v0 := last.On.cell g0 hgl2
        have v1 := last.On.cell g1 hgl2
        have v2 := last.On.cell g2 hgl2
        clear hV8 hV10 hb8 hb9 hba hb10 HGI HGS hT9 hS9 t0 t1 t2 g0 g1 g2 hT10 hS10 hbn
        go_wp2_with fail
        refine last.wp_region_on w10.heap.size (by kernel_rfl) (by kernel_rfl) ?_
        repeat (go_big_quiet_step ((go_at_call 17; exact hcall _)))
        refine wpQuiet_nil ?_
        intro w12 hw12
        obtain ⟨x12, hw12⟩ := hw12
        have hb12 : Below w10.heap.size (w10.alloc (.cells #[.int .i64 x.1, .int .i64 x.2.1, .slice ya yn yc] 26)) w12 := by rw [hw12]; exact x12.2
        clear hw12 x12 hinh hcall u0 u1 u2 v0 v1 v2
        go_wp2_with fail
        go_ret
        exact ⟨rfl, hB11.trans (hb12.mono hB10.size)⟩

set_option maxRecDepth 100000 in
theorem lifted (os : Os) (started : os.Started) (H : Type) (enc : TypeId × Value → H) :
    ReturnsInHanded {} Tryd.checked os 6 .any (fun w args => (Rows.fnFlippedSpec.pre enc Tryd.prog Tryd.f6 [] false w args ∧ laidMetH Tryd.prog doorE.laidE w) ∧ sizedMet enc Tryd.prog Tryd.f6 (OpenSpec.ofChange Rows.fnFlippedSpec) false w args)
      (Rows.fnFlippedSpec.post enc Tryd.prog Tryd.f6 false true false false) := by
  refine returnsInHanded_of_change_and (C := Tryd.checked) (X := fun w _ => laidMetH Tryd.prog doorE.laidE w) (fun _ _ _ hh h => h.of_heap hh) door.own started (by kernel_rfl) Tryd.func6
    (ChangeSpec.witness_shaped (enc := enc) (C := Tryd.checked) (os := os) (X := fun w _ => laidMetH Tryd.prog doorE.laidE w) false (({ World.holding Tryd.prog os ⟨#[], #[], []⟩ with heap := (World.holding Tryd.prog os ⟨#[], #[], []⟩).heap.setIfInBounds 0 (.cells #[.iface 130 (.agg #[.pointer (some ⟨2, 62, none⟩)])] 98 (0, 0)) } : World).layVars Tryd.prog door.laidD) #[.slice none 0 0] 70 (doorE.laidW_os os) (World.shaped_of_ZipB (by kernel_rfl) (by kernel_rfl)) (by kernel_rfl) (by kernel_rfl) (by kernel_rfl)
      (doorE.laidW_met os _)) ?_
  intro W base args ds gs before hval0 hW _ _ hL _
  have hval : ∀ (j : Nat) t v, Tryd.f6.params[j]? = some t → args[j]? = some v → Value.okWide Tryd.prog W .any base t v := hval0
  have hW' := hW
  obtain ⟨p, q, hA0, hV, rfl, hfz, hnd⟩ := hW
  have hA : DataW.TrodAll enc Tryd.prog W 0 (fun _ => true) true Tryd.f6.params.toList args.toList ds p := hA0
  rw [Tryd.params6] at hA hval
  obtain ⟨v0, vs0, d0, ds0, p0, q0, hargs, rfl, rfl, h0, r0⟩ := trodAll_cons hA
  obtain ⟨rfl, rfl, rfl⟩ := trodAll_nil r0
  obtain rfl : args = #[v0] := by cases args; simp_all
  obtain ⟨gv, tv, csv, fv, dv, pv, rfl, _, _, _, _, _⟩ := trodVars_one (show DataW.TrodVars enc Tryd.prog W (fun _ => true) ["loop.example/g00244/impl.roundWords"] gs q from hV)
  obtain ⟨a0, len0, cap0, rfl⟩ := okWide_slice Tryd.underlying22 (hval 0 22 v0 rfl rfl)
  have k0 := h0
  have lt0 : ∀ x ∈ p0, x.block < W.heap.size := by obtain ⟨m, hm⟩ := k0; exact DataW.trod_lt m _ _ _ hm
  obtain ⟨b0, w0⟩ : ∃ bs, Sl W a0 len0 bs := by
    obtain ⟨fuel, hf⟩ := h0
    rcases open_ints Tryd.underlying22 Tryd.underlying5 (by kernel_rfl) hf with ⟨hcs, _⟩ | ⟨x, l, c, zs, hcs, _, hl, hm, hz, _, hcell, hwz⟩
    · simp [Value.cells] at hcs
      obtain ⟨rfl, rfl, rfl⟩ := hcs
      exact ⟨[], sl_nil _ _⟩
    · simp [Value.cells] at hcs
      obtain ⟨rfl, rfl, rfl⟩ := hcs
      exact ⟨_, sl_of_ints hl hm (by simpa using hz) hcell hwz⟩
  clear hA0 hval0
  refine (walk a0 len0 cap0 b0 W w0 (doorE.known_of_laid hL)).mono fun e W' ⟨he, bel⟩ => ?_
  subst he
  exact ⟨_, rfl, _, _, _, [], _, _, hW', trodAll_mk1 (shut_bool Tryd.underlying4 _), (trodAll_cons_mk (Below.trod door.laidOut (by kernel_rfl) (of_decide_eq_true (by kernel_rfl)) k0 bel lt0) trodAll_mk0), bel.trodVars door.laidOut (by kernel_rfl) hV, bel.frame _, fun h => by cases h⟩

theorem over : Rows.fnFlippedRow.holds Tryd.pinned (OpenSpec.ofChange Rows.fnFlippedSpec) :=
  OpenClaim.holds_of_wide 6 Tryd.f6 rfl rfl rfl rfl rfl rfl rfl ⟨rfl, rfl, rfl, rfl, rfl⟩ rfl rfl rfl rfl rfl (by kernel_rfl) Tryd.func6 (by kernel_rfl)
    (of_decide_eq_true (by kernel_rfl)) (by unfold Func.isWrapper; first | (rw [if_pos (by decide +kernel)]; kernel_rfl) | (rw [if_neg (by decide +kernel)]; exact ⟨rfl, rfl⟩))
    (fun os started H enc _ => lifted os started H enc)

theorem proved : Rows.FnFlippedCardSaid :=
  Claim7.holds_tied_plain_at .later [] [.handle, .data] true (true, "676bdcf6d508b3309f940b283a0f0a096954b855a10cf9cb5f22109115c04267") true
    over (fun _ h => by cases h) (by kernel_rfl) (fun _ h => by cases h) fnFlipped_row_tie rfl ⟨rfl, rfl⟩ (by kernel_rfl) rfl
    (fun f fn hf hfn => by
      obtain rfl : f = 6 := Option.some.inj ((show Tryd.prog.funcNamed "loop.example/g00244/laws.FnFlipped" = some 6 by kernel_rfl).symm.trans hf) |>.symm
      obtain rfl : fn = Tryd.f6 := (Option.some.inj (Tryd.func6.symm.trans hfn)).symm
      exact ⟨by kernel_rfl, fun j t ht => by
        rw [Tryd.params6] at ht
        have hm : t ∈ [22] := by simpa using Array.mem_of_getElem? ht
        have hall : ([22].all fun u => !Tryd.prog.wantsStandIn u) = true := by kernel_rfl
        exact (show Tryd.prog.wantsStandIn t = false by simpa using List.all_eq_true.1 hall t hm)⟩)
    (by kernel_rfl)
end Go.Proofs.YtooiinicnkhlbaaDoor.fnFlipped
