/- The statement FnRecsReadCardSaid: at every slice of bytes FnRecsRead answers true, and the slice reads afterwards as before, where the table of the rounds' words and the type of errors are as the program's text lays them (the card ties them). No condition besides the row's own. -/
import Derived.Test.YtooiinicnkhlbaaDoorRows
import Derived.Test.YtooiinicnkhlbaaDoorCards
import Derived.Test.YtooiinicnkhlbaaDoorTie
import Derived.Test.YtooiinicnkhlbaaDoorBund8ay
import Derived.Test.YtooiinicnkhlbaaDoorBund8ax
import Derived.Test.YtooiinicnkhlbaaDoorBund8xb
import Derived.ProofKit
import Derived.OpenShut
import Derived.ShutString
import Derived.ChangeOld
import Derived.Below
namespace Go.Proofs.YtooiinicnkhlbaaDoor.fnRecsRead
open Go.ChangeShapes Go.WideShapes Go.ChangeAt Go.RowKit
open Go.ChangeMaps (open_string shut_string)
set_option linter.unusedVariables false
open Go.Proofs.YtooiinicnkhlbaaDoor.base Go.Proofs.YtooiinicnkhlbaaDoor.pairs Go.Proofs.YtooiinicnkhlbaaDoor.ords Go.Proofs.YtooiinicnkhlbaaDoor.draw Go.Proofs.YtooiinicnkhlbaaDoor.helps Go.Proofs.YtooiinicnkhlbaaDoor.recs

/-- what a world holds while a record that was read is put again -/
def InG (w : World) (X : Nat) (kind tx : Int) (v : Value) (w' : World) : Prop := BoxR X kind tx v w' ∧ Below w.heap.size w w'
theorem InG.below {w w' w'' : World} {X : Nat} {kind tx : Int} {v : Value} (h : InG w X kind tx v w') (hb : Below w'.heap.size w' w'') : InG w X kind tx v w'' := ⟨h.1.below hb, h.2.trans (hb.mono h.2.size)⟩
theorem InG.held {w w' : World} {X : Nat} {kind tx : Int} {v : Value} (h : InG w X kind tx v w') : InG w X kind tx v w' ∧ w'.cell? ⟨X, 0, none⟩ = some (.int .i64 kind) ∧ w'.cell? ⟨X, 1, none⟩ = some (.int .i64 tx) ∧ w'.cell? ⟨X, 2, none⟩ = some v := ⟨h, h.1.cells⟩

theorem sameB (a a2 : Option Addr) (len cap cap2 : Nat) (bs : List UInt8) (w : World) (h : Sl w a len bs) (h2 : Sl w a2 len bs) :
    Calls Tryd.prog 20 #[.slice a len cap, .slice a2 len cap2] w fun e w' => e = .returned (.bool true) ∧ Below w.heap.size w w' :=
  (sameBytes a a2 len cap cap2 bs w h h2).mono fun e w' ⟨he, n, hw⟩ => ⟨he, by rw [hw]; exact below_drewN (Below.refl _ _) n⟩

set_option maxRecDepth 100000 in
set_option maxHeartbeats 4000000 in
theorem walk (a0 : Option Addr) (len0 cap0 : Nat) (b0 : List UInt8) (w : World) (w0 : Sl w a0 len0 b0) (hK : KR w) :
    Calls Tryd.prog 4 #[.slice a0 len0 cap0] w fun e w' => e = .returned (.bool true) ∧ Below w.heap.size w w' := by
  have hm := w0.2.1
  have hb := big_ a0 len0 cap0 w hm
  by_cases hbig : 1048576 < len0
  · rw [decide_eq_true (by omega)] at hb
    have HB := Hid.mk' hb
    clear hb
    go_enter Tryd.func4, Tryd.ntmps4
    go_wp2_with fail
    refine HB.out.mono ?_
    rintro e wa ⟨rfl, rfl⟩
    go_wp2_with fail
    go_ret
    exact ⟨rfl, Below.refl _ _⟩
  rw [decide_eq_false (by omega)] at hb
  have HB := Hid.mk' hb
  clear hb
  go_enter Tryd.func4, Tryd.ntmps4
  go_wp2_with fail
  refine HB.out.mono ?_
  rintro e wa ⟨rfl, hwa⟩
  subst hwa
  clear HB
  go_wp2_with fail
  refine (drawGetRec a0 len0 cap0 b0 _ w0 (by omega)).mono ?_
  rintro e w1 ⟨g, n, cp, bs, z, hn, hcp, rfl, hz1, hz2, hS1, hB1⟩
  have hzf : (Lit.int .i64 z).wf = true := WalkArith.wf_i64 (by omega)
  have HKW : Hid (∀ wx, Below w1.heap.size w1 wx → KR wx) := fun wx hx => (hK.below hB1).below hx
  have HGI := Hid.mk' (impl_getRec (some ⟨g, 0, none⟩) n cp z bs w1 hS1 hcp (by omega) hzf (HKW.out _ (Below.refl _ _)))
  have HGS : Hid (∀ wx, Below w1.heap.size w1 wx → Calls Tryd.prog 19 #[.slice (some ⟨g, 0, none⟩) n cp, .int .i64 z] wx fun e w' => RecPost wx z (getRec bs z) e w') := fun wx hx => spec_getRec (some ⟨g, 0, none⟩) n cp z bs wx (hS1.below hx) hcp (by omega) hzf
  have hzz : (z == z) = true := by simp
  rcases hg : getRec bs z with _ | ⟨x, q⟩
  · rw [hg] at HGI HGS
    clear hg
    go_wp2_with fail
    refine (HGI.out.mono fun e w' hp => recPost_open (k := 0) (t := 0) (q := z) (L := []) (ok := false) rfl rfl rfl hp).mono ?_
    rintro e w8 ⟨xa, xn, xc, rfl, hV8, hb8⟩
    have hba : Below w8.heap.size w8 (w8.alloc (.cells #[.int .i64 0, .int .i64 0, .slice xa xn xc] 26)) := (Below.refl _ _).alloc (Nat.le_refl _) _
    have hb9 := hb8.trans (hba.mono hb8.size)
    go_wp2_with fail
    refine ((HGS.out _ hb9).mono fun e w' hp => recPost_open (k := 0) (t := 0) (q := z) (L := []) (ok := false) rfl rfl rfl hp).mono ?_
    rintro e w10 ⟨ya, yn, yc, rfl, hV10, hb10⟩
    have hX10 := hb9.trans (hb10.mono hb9.size)
    have hB10 := hB1.trans (hX10.mono hB1.size)
    have hB11 := hB10.alloc hB10.size (.cells #[.int .i64 0, .int .i64 0, .slice ya yn yc] 26)
    clear hV8 hV10 hb8 hb9 hba hb10 HGI HGS
    go_wp2_with fail
    go_ret
    exact ⟨rfl, hB11⟩
  · rw [hg] at HGI HGS
    obtain ⟨h0, hrk, hpq, hql, hby⟩ := getRec_at hg
    obtain ⟨P, rfl⟩ := Int.eq_ofNat_of_zero_le h0
    simp only [Int.toNat_natCast] at hpq hby
    have hbl := hS1.1
    have hks : Hid (∀ p ∈ x.2.2, p.2.1.size ≤ 1099511627776) := recOk_keys hrk
    have hpr : putRec (x.1, x.2.1, x.2.2) = recBytes x := by show putRec x = _; unfold putRec; rw [hrk]; rfl
    have hrk' : recOk (x.1, x.2.1, x.2.2) = true := hrk
    have hsp := sl_part hS1 P (q - P) (by omega)
    rw [hby, Nat.zero_add] at hsp
    have hlen : (recBytes x).length = q - P := by rw [← hby, List.length_take, List.length_drop]; omega
    clear hg hby
    go_wp2_with fail
    refine (HGI.out.mono fun e w' hp => recPost_open (k := x.1) (t := x.2.1) (q := (q : Int)) (L := x.2.2) (ok := true) rfl rfl rfl hp).mono ?_
    rintro e w8 ⟨xa, xn, xc, rfl, hV8, hb8⟩
    have hba : Below w8.heap.size w8 (w8.alloc (.cells #[.int .i64 x.1, .int .i64 x.2.1, .slice xa xn xc] 26)) := (Below.refl _ _).alloc (Nat.le_refl _) _
    have hb9 := hb8.trans (hba.mono hb8.size)
    have hT9 := boxR_new w8 x.1 x.2.1 (.slice xa xn xc)
    have hS9 := (ownV_slo hV8).below hba
    go_wp2_with fail
    refine ((HGS.out _ hb9).mono fun e w' hp => recPost_open (k := x.1) (t := x.2.1) (q := (q : Int)) (L := x.2.2) (ok := true) rfl rfl rfl hp).mono ?_
    rintro e w10 ⟨ya, yn, yc, rfl, hV10, hb10⟩
    have hX10 := hb9.trans (hb10.mono hb9.size)
    have hB10 := hB1.trans (hX10.mono hB1.size)
    obtain ⟨W, hW⟩ : ∃ W, W = w10.alloc (.cells #[.int .i64 x.1, .int .i64 x.2.1, .slice ya yn yc] 26) := ⟨_, rfl⟩
    have hbn : Below w10.heap.size w10 W := by rw [hW]; exact (Below.refl _ _).alloc (Nat.le_refl _) _
    have hTW := (hT9.below hb10).below hbn
    have hSW := (hS9.below hb10).below hbn
    have hXW := hX10.trans (hbn.mono hX10.size)
    have hBW := hB1.trans (hXW.mono hB1.size)
    have hIW : InG W w8.heap.size x.1 x.2.1 (.slice xa xn xc) W.drew := ⟨hTW, (Below.refl _ _).drew⟩
    have HRK : Hid (∀ wx, InG W w8.heap.size x.1 x.2.1 (.slice xa xn xc) wx → Calls Tryd.prog 14 #[.agg #[.int .i64 x.1, .int .i64 x.2.1, .slice xa xn xc]] wx fun e w' => e = .returned (.bool true) ∧ Below wx.heap.size wx w') := fun wx hx => by
      have := impl_recOk x.1 x.2.1 xa xn xc x.2.2 wx (hSW.below hx.2) hks.out
      rw [hrk'] at this
      exact this
    have HPU : Hid (∀ wx, InG W w8.heap.size x.1 x.2.1 (.slice xa xn xc) wx → Calls Tryd.prog 12 #[.agg #[.int .i64 x.1, .int .i64 x.2.1, .slice xa xn xc]] wx fun e w' => ∃ g' n' cap', e = .returned (.slice (some ⟨g', 0, none⟩) n' cap') ∧ Own w' wx.heap.size g' n' cap' (recBytes x) ∧ Below wx.heap.size wx w') := fun wx hx => by
      have := impl_putRec x.1 x.2.1 xa xn xc x.2.2 wx (hSW.below hx.2) hks.out (HKW.out _ (hXW.trans (hx.2.mono hXW.size))).1
      rw [hpr] at this
      exact this
    have HSB : Hid (∀ wx, InG W w8.heap.size x.1 x.2.1 (.slice xa xn xc) wx → Sl wx (some ⟨g, P, none⟩) (q - P) (recBytes x)) := fun wx hx => hsp.below (hXW.trans (hx.2.mono hXW.size))
    obtain ⟨d0, d1, d2⟩ := hTW.cells
    have hcc : ¬ cp = P := by omega
    have hi1 : (P : Int) ≤ (q : Int) := by omega
    have hi2 : (q : Int) ≤ (cp : Int) := by omega
    have hqq : ((q : Int) == (q : Int)) = true := by simp
    have HW := Hid.mk' hW.symm
    clear hV8 hV10 hb8 hb9 hba hb10 HGI HGS hT9 hS9 hW hbn hSW hsp hX10 hB10
    go_wp2_with fail
    rw [HW.out]
    go_region_held3 (fun w' => InG W w8.heap.size x.1 x.2.1 (.slice xa xn xc) w' ∧ w'.cell? ⟨w8.heap.size, 0, none⟩ = some (.int .i64 x.1) ∧ w'.cell? ⟨w8.heap.size, 1, none⟩ = some (.int .i64 x.2.1) ∧ w'.cell? ⟨w8.heap.size, 2, none⟩ = some (.slice xa xn xc))
      (first | (exact hIW.held) | (with_reducible assumption) | (exact hI7.held) | (exact hI6.held) | (exact hI5.held) | (go_keep))
      (first
        | (go_at_call 14; have hI : InG W w8.heap.size x.1 x.2.1 (.slice xa xn xc) _ := And.left (by with_reducible assumption); refine (HRK.out _ hI).mono ?_; rintro e w5 ⟨rfl, hb5⟩; have hI5 := hI.below hb5)
        | (go_at_call 12; have hI : InG W w8.heap.size x.1 x.2.1 (.slice xa xn xc) _ := And.left (by with_reducible assumption); refine (HPU.out _ hI).mono ?_; rintro e w6 ⟨g6, n6, cp6, rfl, hO6, hb6⟩; obtain rfl : n6 = q - P := hO6.1.symm.trans hlen; have hI6 := hI.below hb6)
        | (go_at_call 20; have hI : InG W w8.heap.size x.1 x.2.1 (.slice xa xn xc) _ := And.left (by with_reducible assumption); refine (sameB _ _ (q - P) _ _ (recBytes x) _ hO6.sl (HSB.out _ hI)).mono ?_; rintro e w7 ⟨rfl, hb7⟩; have hI7 := hI.below hb7))
    all_goals
      have hB7 := hBW.trans (hI7.2.mono hBW.size)
      clear HRK HPU HSB
      go_wp2_with fail
      go_ret
      exact ⟨rfl, hB7⟩

set_option maxRecDepth 100000 in
theorem lifted (os : Os) (started : os.Started) (H : Type) (enc : TypeId × Value → H) :
    ReturnsInHanded {} Tryd.checked os 4 .any (fun w args => (Rows.fnRecsReadSpec.pre enc Tryd.prog Tryd.f4 [] false w args ∧ laidMetH Tryd.prog doorE.laidE w) ∧ sizedMet enc Tryd.prog Tryd.f4 (OpenSpec.ofChange Rows.fnRecsReadSpec) false w args)
      (Rows.fnRecsReadSpec.post enc Tryd.prog Tryd.f4 false true false false) := by
  refine returnsInHanded_of_change_and (C := Tryd.checked) (X := fun w _ => laidMetH Tryd.prog doorE.laidE w) (fun _ _ _ hh h => h.of_heap hh) door.own started (by kernel_rfl) Tryd.func4
    (ChangeSpec.witness_shaped (enc := enc) (C := Tryd.checked) (os := os) (X := fun w _ => laidMetH Tryd.prog doorE.laidE w) false (({ World.holding Tryd.prog os ⟨#[], #[], []⟩ with heap := (World.holding Tryd.prog os ⟨#[], #[], []⟩).heap.setIfInBounds 0 (.cells #[.iface 130 (.agg #[.pointer (some ⟨2, 62, none⟩)])] 98 (0, 0)) } : World).layVars Tryd.prog door.laidD) #[.slice none 0 0] 70 (doorE.laidW_os os) (World.shaped_of_ZipB (by kernel_rfl) (by kernel_rfl)) (by kernel_rfl) (by kernel_rfl) (by kernel_rfl)
      (doorE.laidW_met os _)) ?_
  intro W base args ds gs before hval0 hW _ _ hL _
  have hval : ∀ (j : Nat) t v, Tryd.f4.params[j]? = some t → args[j]? = some v → Value.okWide Tryd.prog W .any base t v := hval0
  have hW' := hW
  obtain ⟨p, q, hA0, hV, rfl, hfz, hnd⟩ := hW
  have hA : DataW.TrodAll enc Tryd.prog W 0 (fun _ => true) true Tryd.f4.params.toList args.toList ds p := hA0
  rw [Tryd.params4] at hA hval
  obtain ⟨v0, vs0, d0, ds0, p0, q0, hargs, rfl, rfl, h0, r0⟩ := trodAll_cons hA
  obtain ⟨rfl, rfl, rfl⟩ := trodAll_nil r0
  obtain rfl : args = #[v0] := by cases args; simp_all
  obtain ⟨gv, tv, csv, fv, dv, pv, rfl, _, _, _, _, _⟩ := trodVars_one (show DataW.TrodVars enc Tryd.prog W (fun _ => true) ["loop.example/g00244/impl.roundWords"] gs q from hV)
  obtain ⟨a0, len0, cap0, rfl⟩ := okWide_slice Tryd.underlying22 (hval 0 22 v0 rfl rfl)
  have k0 := h0
  have lt0 : ∀ x ∈ p0, x.block < W.heap.size := by obtain ⟨m, hm⟩ := k0; exact DataW.trod_lt m _ _ _ hm
  obtain ⟨b0, w0⟩ : ∃ bs, Sl W a0 len0 bs := by
    obtain ⟨fuel, hf⟩ := h0
    rcases open_ints Tryd.underlying22 Tryd.underlying5 (by kernel_rfl) hf with ⟨hcs, _⟩ | ⟨x, l, c, zs, hcs, _, hl, hm, hz, _, hcell, hwz⟩
    · simp [Value.cells] at hcs
      obtain ⟨rfl, rfl, rfl⟩ := hcs
      exact ⟨[], sl_nil _ _⟩
    · simp [Value.cells] at hcs
      obtain ⟨rfl, rfl, rfl⟩ := hcs
      exact ⟨_, sl_of_ints hl hm (by simpa using hz) hcell hwz⟩
  clear hA0 hval0
  refine (walk a0 len0 cap0 b0 W w0 (doorE.known_of_laid hL)).mono fun e W' ⟨he, bel⟩ => ?_
  subst he
  exact ⟨_, rfl, _, _, _, [], _, _, hW', trodAll_mk1 (shut_bool Tryd.underlying4 _), (trodAll_cons_mk (Below.trod door.laidOut (by kernel_rfl) (of_decide_eq_true (by kernel_rfl)) k0 bel lt0) trodAll_mk0), bel.trodVars door.laidOut (by kernel_rfl) hV, bel.frame _, fun h => by cases h⟩

theorem over : Rows.fnRecsReadRow.holds Tryd.pinned (OpenSpec.ofChange Rows.fnRecsReadSpec) :=
  OpenClaim.holds_of_wide 4 Tryd.f4 rfl rfl rfl rfl rfl rfl rfl ⟨rfl, rfl, rfl, rfl, rfl⟩ rfl rfl rfl rfl rfl (by kernel_rfl) Tryd.func4 (by kernel_rfl)
    (of_decide_eq_true (by kernel_rfl)) (by unfold Func.isWrapper; first | (rw [if_pos (by decide +kernel)]; kernel_rfl) | (rw [if_neg (by decide +kernel)]; exact ⟨rfl, rfl⟩))
    (fun os started H enc _ => lifted os started H enc)

theorem proved : Rows.FnRecsReadCardSaid :=
  Claim7.holds_tied_plain_at .later [] [.handle, .data] true (true, "676bdcf6d508b3309f940b283a0f0a096954b855a10cf9cb5f22109115c04267") true
    over (fun _ h => by cases h) (by kernel_rfl) (fun _ h => by cases h) fnRecsRead_row_tie rfl ⟨rfl, rfl⟩ (by kernel_rfl) rfl
    (fun f fn hf hfn => by
      obtain rfl : f = 4 := Option.some.inj ((show Tryd.prog.funcNamed "loop.example/g00244/laws.FnRecsRead" = some 4 by kernel_rfl).symm.trans hf) |>.symm
      obtain rfl : fn = Tryd.f4 := (Option.some.inj (Tryd.func4.symm.trans hfn)).symm
      exact ⟨by kernel_rfl, fun j t ht => by
        rw [Tryd.params4] at ht
        have hm : t ∈ [22] := by simpa using Array.mem_of_getElem? ht
        have hall : ([22].all fun u => !Tryd.prog.wantsStandIn u) = true := by kernel_rfl
        exact (show Tryd.prog.wantsStandIn t = false by simpa using List.all_eq_true.1 hall t hm)⟩)
    (by kernel_rfl)
end Go.Proofs.YtooiinicnkhlbaaDoor.fnRecsRead
