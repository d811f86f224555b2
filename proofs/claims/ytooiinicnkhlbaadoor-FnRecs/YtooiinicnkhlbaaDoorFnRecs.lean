/- The statement FnRecsCardSaid: at every slice of bytes FnRecs answers true, and the slice reads afterwards as before, where the table of the rounds' words is as the program's text lays it (the card ties it). No condition besides the row's own. -/
import Derived.Test.YtooiinicnkhlbaaDoorRows
import Derived.Test.YtooiinicnkhlbaaDoorCards
import Derived.Test.YtooiinicnkhlbaaDoorTie
import Derived.Test.YtooiinicnkhlbaaDoorBund8ay
import Derived.Test.YtooiinicnkhlbaaDoorBund8az
import Derived.Test.YtooiinicnkhlbaaDoorBund8ax
import Derived.Test.YtooiinicnkhlbaaDoorBund8bb
import Derived.Test.YtooiinicnkhlbaaDoorBund8bc
import Derived.ProofKit
import Derived.OpenShut
import Derived.ShutString
import Derived.ChangeOld
import Derived.Below
namespace Go.Proofs.YtooiinicnkhlbaaDoor.fnRecs
open Go.ChangeShapes Go.WideShapes Go.ChangeAt Go.RowKit
open Go.ChangeMaps (open_string shut_string)
set_option linter.unusedVariables false
open Go.Proofs.YtooiinicnkhlbaaDoor.base Go.Proofs.YtooiinicnkhlbaaDoor.pairs Go.Proofs.YtooiinicnkhlbaaDoor.ords Go.Proofs.YtooiinicnkhlbaaDoor.draw Go.Proofs.YtooiinicnkhlbaaDoor.helps Go.Proofs.YtooiinicnkhlbaaDoor.recs

theorem rem_q (x N : Nat) (h : 0 < N) : ∃ q : Nat, q < N ∧ (x : Int).tmod (N : Int) = (q : Int) ∧ (x : Int) % (N : Int) = (q : Int) := by
  refine ⟨x % N, Nat.mod_lt _ h, ?_, by rw [Int.natCast_emod]⟩
  rw [Int.tmod_eq_emod_of_nonneg (by omega), Int.natCast_emod]
theorem sl_take {w : World} {b len n : Nat} {bs : List UInt8} (h : Sl w (some ⟨b, 0, none⟩) len bs) (hn : n ≤ len) : Sl w (some ⟨b, 0, none⟩) n (bs.take n) := by
  have := sl_part h 0 n (by omega); simpa using this

set_option maxRecDepth 100000 in
set_option maxHeartbeats 4000000 in
theorem walk (a0 : Option Addr) (len0 cap0 : Nat) (b0 : List UInt8) (w : World) (w0 : Sl w a0 len0 b0) (hK : KR w) :
    Calls Tryd.prog 3 #[.slice a0 len0 cap0] w fun e w' => e = .returned (.bool true) ∧ Below w.heap.size w w' := by
  have hm := w0.2.1
  have hb := big_ a0 len0 cap0 w hm
  by_cases hbig : 1048576 < len0
  · rw [decide_eq_true (by omega)] at hb
    have HB := Hid.mk' hb
    clear hb
    go_enter Tryd.func3, Tryd.ntmps3
    go_wp2_with fail
    refine HB.out.mono ?_
    rintro e wa ⟨rfl, rfl⟩
    go_wp2_with fail
    go_ret
    exact ⟨rfl, Below.refl _ _⟩
  rw [decide_eq_false (by omega)] at hb
  have HB := Hid.mk' hb
  clear hb
  go_enter Tryd.func3, Tryd.ntmps3
  go_wp2_with fail
  refine HB.out.mono ?_
  rintro e wa ⟨rfl, hwa⟩
  subst hwa
  clear HB
  go_wp2_with fail
  refine (drawPutRec a0 len0 cap0 b0 _ w0 (by omega)).mono ?_
  rintro e w1 ⟨⟨k, t, l⟩, v, ht, rfl, hv, hB1⟩
  have hv : OwnV w1 wa.heap.size v l := hv
  obtain ⟨pa, pc, hvv, _, _⟩ := hv.sl
  obtain ⟨n, hn⟩ : ∃ n, l.length = n := ⟨_, rfl⟩
  rw [hn] at hvv
  subst hvv
  have hks : Hid (∀ p ∈ l, p.2.1.size ≤ 1099511627776) := fun p hp => by have := (ht.2.2.2 p hp).2.2.1; omega
  obtain ⟨w2, hw2⟩ : ∃ w2, w1.alloc (.cells #[.int .i64 k, .int .i64 t, .slice pa n pc] 26) = w2 := ⟨_, rfl⟩
  have hb2 : Below w1.heap.size w1 w2 := by rw [← hw2]; exact (Below.refl _ _).alloc (Nat.le_refl _) _
  have hV2 : V3 w2 w1.heap.size 26 (.int .i64 k) (.int .i64 t) (.slice pa n pc) := by rw [← hw2]; exact heap_alloc_new w1 _
  have hB2 : Below wa.heap.size wa w2 := hB1.trans (hb2.mono hB1.size)
  have HSL : Hid (∀ wx, Below w2.heap.size w2 wx → SlO wx pa n l) := fun wx hx => ((ownV_slo hv).below hb2).below hx
  have HKW : Hid (∀ wx, Below w2.heap.size w2 wx → KR wx) := fun wx hx => (hK.below hB2).below hx
  have HPU := Hid.mk' (impl_putRec k t pa n pc l w2 (HSL.out _ (Below.refl _ _)) hks.out (HKW.out _ (Below.refl _ _)).1)
  rw [← hw2] at HPU
  have HOK : Hid (∀ wx, Below w2.heap.size w2 wx → Calls Tryd.prog 13 #[.agg #[.int .i64 k, .int .i64 t, .slice pa n pc]] wx fun e w' => e = .returned (.bool (recOk (k, t, l))) ∧ Below wx.heap.size wx w') := fun wx hx => spec_recOk k t pa n pc l wx (HSL.out _ hx) hks.out
  have HIK : Hid (∀ wx, Below w2.heap.size w2 wx → Calls Tryd.prog 14 #[.agg #[.int .i64 k, .int .i64 t, .slice pa n pc]] wx fun e w' => e = .returned (.bool (recOk (k, t, l))) ∧ Below wx.heap.size wx w') := fun wx hx => impl_recOk k t pa n pc l wx (HSL.out _ hx) hks.out
  have HW2 := Hid.mk' hw2
  clear hw2 hv ht hb2 hB1
  go_wp2_with fail
  refine HPU.out.mono ?_
  rw [HW2.out]
  rintro e w3 ⟨gb, nb, cb, rfl, hO3, hb3⟩
  have hX3 : Below w2.heap.size w2 w3 := hb3
  have hV3 := hV2.below hb3
  have v0 := hV3.c0
  have v1 := hV3.c1
  have v2 := hV3.c2
  have hlb := hO3.1
  have hmx := hO3.max
  clear HPU HW2 hV2 hb3
  have HAT : Hid (∀ wx, Below w2.heap.size w2 wx → Calls Tryd.prog 16 #[.slice a0 len0 cap0, .int .i64 2] wx fun e w' => ∃ x : Nat, x < 256 ∧ e = .returned (.int .i64 (x : Int)) ∧ w' = wx) := fun wx hx => at_ a0 len0 cap0 b0 2 wx ((w0.below hB2).below hx) (by omega) (by omega)
  cases hok : recOk (k, t, l)
  · have hnb : nb = 0 := by unfold putRec at hlb; rw [hok] at hlb; simpa using hlb.symm
    subst hnb
    rw [hok] at HOK HIK
    clear hO3 hok
    go_wp2_with fail
    refine (HOK.out _ hX3).mono ?_
    rintro e w4 ⟨rfl, hb4⟩
    have hX4 : Below w2.heap.size w2 w4 := hX3.trans (hb4.mono hX3.size)
    have hV4 := hV3.below hb4
    have u0 := hV4.c0
    have u1 := hV4.c1
    have u2 := hV4.c2
    clear hb4 hX3 v0 v1 v2 hV3
    go_wp2_with fail
    refine (HIK.out _ hX4).mono ?_
    rintro e w5 ⟨rfl, hb5⟩
    have hX5 : Below w2.heap.size w2 w5 := hX4.trans (hb5.mono hX4.size)
    clear u0 u1 u2
    go_wp2_with fail
    go_ret
    exact ⟨rfl, hB2.trans (hX5.mono hB2.size)⟩
  · have hpr : putRec (k, t, l) = recBytes (k, t, l) := by unfold putRec; rw [hok]; rfl
    rw [hpr] at hO3 hlb
    have hsm := body_small (k, t, l)
    have hsr := rec_small (k, t, l)
    have hpos : 0 < nb := by
      have h4 := sum4_length (bodyOf (k, t, l))
      have : (recBytes (k, t, l)).length = nb := hlb
      have h5 : 4 ≤ (recBytes (k, t, l)).length := by simp only [recBytes, List.length_append]; omega
      omega
    have hg1 : getRec (recBytes (k, t, l)) 0 = some ((k, t, l), nb) := by have := getRec_put (k, t, l) [] hok (by omega); rw [List.append_nil, hlb] at this; exact this
    have HG1 : Hid (∀ wx, Below w3.heap.size w3 wx → KR wx → Calls Tryd.prog 15 #[.slice (some ⟨gb, 0, none⟩) nb cb, .int .i64 0] wx fun e w' => ∃ a n cap, e = .returned (.tuple #[.agg #[.int .i64 k, .int .i64 t, .slice a n cap], .int .i64 (nb : Int), .bool true]) ∧ OwnV w' wx.heap.size (.slice a n cap) l ∧ Below wx.heap.size wx w') := fun wx hx hk => (impl_getRec (some ⟨gb, 0, none⟩) nb cb 0 _ wx (hO3.sl.below hx) hmx.1 (by omega) (WalkArith.wf_i64 (by omega)) hk).mono fun e w' hp => recPost_open (by rw [hg1]; rfl) (by rw [hg1]; rfl) (by rw [hg1]; rfl) hp
    have HG2 : Hid (∀ q, q < nb → ∀ wx, Below w3.heap.size w3 wx → KR wx → Calls Tryd.prog 15 #[.slice (some ⟨gb, 0, none⟩) q cb, .int .i64 0] wx fun e w' => ∃ a n cap, e = .returned (.tuple #[.agg #[.int .i64 0, .int .i64 0, .slice a n cap], .int .i64 0, .bool false]) ∧ OwnV w' wx.heap.size (.slice a n cap) [] ∧ Below wx.heap.size wx w') := fun q hq wx hx hk => by
      have hcut := getRec_cut (r := (k, t, l)) hok (by omega) q (by omega)
      exact (impl_getRec (some ⟨gb, 0, none⟩) q cb 0 _ wx (sl_take (hO3.sl.below hx) (by omega)) (by omega) (by omega) (WalkArith.wf_i64 (by omega)) hk).mono fun e w' hp => recPost_open (by rw [hcut]; rfl) (by rw [hcut]; rfl) (by rw [hcut]; rfl) hp
    have hcb : nb ≤ cb := hmx.1
    have hcm : cb ≤ maxLen := hmx.2
    rw [hok] at HOK HIK
    clear hO3 hok hpr hsm hsr hg1 hlb hmx
    go_wp2_with fail
    refine (HOK.out _ hX3).mono ?_
    rintro e w4 ⟨rfl, hb4⟩
    have hX4 : Below w2.heap.size w2 w4 := hX3.trans (hb4.mono hX3.size)
    have hY4 : Below w3.heap.size w3 w4 := hb4
    have hV4 := hV3.below hb4
    clear hb4 v0 v1 v2 hV3
    go_wp2_with fail
    refine (HG1.out _ hY4 (HKW.out _ hX4)).mono ?_
    rintro e w5 ⟨xa, xn, xc, rfl, hOx, hb5⟩
    have hX5 : Below w2.heap.size w2 w5 := hX4.trans (hb5.mono hX4.size)
    have hY5 : Below w3.heap.size w3 w5 := hY4.trans (hb5.mono hY4.size)
    have hV5 := hV4.below hb5
    have hSx := ownV_slo hOx
    obtain ⟨w6, hw6⟩ : ∃ w6, w5.alloc (.cells #[.int .i64 k, .int .i64 t, .slice xa xn xc] 26) = w6 := ⟨_, rfl⟩
    have hb6 : Below w5.heap.size w5 w6 := by rw [← hw6]; exact (Below.refl _ _).alloc (Nat.le_refl _) _
    have hU6 : V3 w6 w5.heap.size 26 (.int .i64 k) (.int .i64 t) (.slice xa xn xc) := by rw [← hw6]; exact heap_alloc_new w5 _
    have hX6 : Below w2.heap.size w2 w6 := hX5.trans (hb6.mono hX5.size)
    have hY6 : Below w3.heap.size w3 w6 := hY5.trans (hb6.mono hY5.size)
    have hV6 := hV5.below hb6
    have hS6 := hSx.below hb6
    have HAT6 := Hid.mk' (HAT.out _ hX6)
    rw [← hw6] at HAT6
    have HW6 := Hid.mk' hw6
    clear hw6 hb5 hOx hSx hV5 hV4 hb6 hX5 hY5 hX4 hY4
    go_wp2_with fail
    refine HAT6.out.mono ?_
    rw [HW6.out]
    rintro e w7 ⟨x, hx, rfl, hw7⟩
    subst hw7
    obtain ⟨q, hq, hq1, hq2⟩ := rem_q x nb hpos
    have hqi : (q : Int) ≤ (cb : Int) := by omega
    unfold maxLen at hcm
    clear HAT6 HW6
    have hnz : ¬ (nb : Int) = 0 := by omega
    go_wp2_with fail
    refine (HG2.out q hq _ hY6 (HKW.out _ hX6)).mono ?_
    rintro e w8 ⟨za, zn, zc, rfl, hOz, hb8⟩
    obtain ⟨w9, hw9⟩ : ∃ w9, w8.alloc (.cells #[.int .i64 0, .int .i64 0, .slice za zn zc] 26) = w9 := ⟨_, rfl⟩
    have hb9 : Below w8.heap.size w8 w9 := by rw [← hw9]; exact (Below.refl _ _).alloc (Nat.le_refl _) _
    have hX9 : Below w2.heap.size w2 w9 := (hX6.trans (hb8.mono hX6.size)).trans (hb9.mono (hX6.trans (hb8.mono hX6.size)).size)
    have hV9 := (hV6.below hb8).below hb9
    have hU9 := (hU6.below hb8).below hb9
    have hS9 := (hS6.below hb8).below hb9
    have c0 := hV9.c0
    have c1 := hV9.c1
    have c2 := hV9.c2
    have d0 := hU9.c0
    have d1 := hU9.c1
    have d2 := hU9.c2
    rw [← hw9] at c0 c1 c2 d0 d1 d2
    have HSR := Hid.mk' (sameRecT k t xa pa xn xc n pc l w9 hS9 (HSL.out _ hX9))
    have HW9 := Hid.mk' hw9
    clear hw9 hV6 hU6 hS6 hX6 hY6 hOz hb8 hb9 hU9 hS9 hq1 hq2 hqi
    have hnn : ((nb : Int) == (nb : Int)) = true := by simp
    go_wp2_with fail
    rw [HW9.out]
    refine HSR.out.mono ?_
    rintro e w10 ⟨rfl, hb10⟩
    have hX10 : Below w2.heap.size w2 w10 := hX9.trans (hb10.mono hX9.size)
    have hV10 := hV9.below hb10
    have e0 := hV10.c0
    have e1 := hV10.c1
    have e2 := hV10.c2
    clear c0 c1 c2 d0 d1 d2 HSR HW9 hb10 hX9 hV9
    go_wp2_with fail
    refine (HIK.out _ hX10).mono ?_
    rintro e w11 ⟨rfl, hb11⟩
    have hX11 : Below w2.heap.size w2 w11 := hX10.trans (hb11.mono hX10.size)
    go_wp2_with fail
    go_ret
    exact ⟨rfl, hB2.trans (hX11.mono hB2.size)⟩

set_option maxRecDepth 100000 in
theorem lifted (os : Os) (started : os.Started) (H : Type) (enc : TypeId × Value → H) :
    ReturnsInHanded {} Tryd.checked os 3 .any (fun w args => (Rows.fnRecsSpec.pre enc Tryd.prog Tryd.f3 [] false w args ∧ laidMetH Tryd.prog doorE.laidE w) ∧ sizedMet enc Tryd.prog Tryd.f3 (OpenSpec.ofChange Rows.fnRecsSpec) false w args)
      (Rows.fnRecsSpec.post enc Tryd.prog Tryd.f3 false true false false) := by
  refine returnsInHanded_of_change_and (C := Tryd.checked) (X := fun w _ => laidMetH Tryd.prog doorE.laidE w) (fun _ _ _ hh h => h.of_heap hh) door.own started (by kernel_rfl) Tryd.func3
    (ChangeSpec.witness_shaped (enc := enc) (C := Tryd.checked) (os := os) (X := fun w _ => laidMetH Tryd.prog doorE.laidE w) false (({ World.holding Tryd.prog os ⟨#[], #[], []⟩ with heap := (World.holding Tryd.prog os ⟨#[], #[], []⟩).heap.setIfInBounds 0 (.cells #[.iface 130 (.agg #[.pointer (some ⟨2, 62, none⟩)])] 98 (0, 0)) } : World).layVars Tryd.prog door.laidD) #[.slice none 0 0] 70 (doorE.laidW_os os) (World.shaped_of_ZipB (by kernel_rfl) (by kernel_rfl)) (by kernel_rfl) (by kernel_rfl) (by kernel_rfl)
      (doorE.laidW_met os _)) ?_
  intro W base args ds gs before hval0 hW _ _ hL _
  have hval : ∀ (j : Nat) t v, Tryd.f3.params[j]? = some t → args[j]? = some v → Value.okWide Tryd.prog W .any base t v := hval0
  have hW' := hW
  obtain ⟨p, q, hA0, hV, rfl, hfz, hnd⟩ := hW
  have hA : DataW.TrodAll enc Tryd.prog W 0 (fun _ => true) true Tryd.f3.params.toList args.toList ds p := hA0
  rw [Tryd.params3] at hA hval
  obtain ⟨v0, vs0, d0, ds0, p0, q0, hargs, rfl, rfl, h0, r0⟩ := trodAll_cons hA
  obtain ⟨rfl, rfl, rfl⟩ := trodAll_nil r0
  obtain rfl : args = #[v0] := by cases args; simp_all
  obtain ⟨gv, tv, csv, fv, dv, pv, rfl, _, _, _, _, _⟩ := trodVars_one (show DataW.TrodVars enc Tryd.prog W (fun _ => true) ["loop.example/g00244/impl.roundWords"] gs q from hV)
  obtain ⟨a0, len0, cap0, rfl⟩ := okWide_slice Tryd.underlying22 (hval 0 22 v0 rfl rfl)
  have k0 := h0
  have lt0 : ∀ x ∈ p0, x.block < W.heap.size := by obtain ⟨m, hm⟩ := k0; exact DataW.trod_lt m _ _ _ hm
  obtain ⟨b0, w0⟩ : ∃ bs, Sl W a0 len0 bs := by
    obtain ⟨fuel, hf⟩ := h0
    rcases open_ints Tryd.underlying22 Tryd.underlying5 (by kernel_rfl) hf with ⟨hcs, _⟩ | ⟨x, l, c, zs, hcs, _, hl, hm, hz, _, hcell, hwz⟩
    · simp [Value.cells] at hcs
      obtain ⟨rfl, rfl, rfl⟩ := hcs
      exact ⟨[], sl_nil _ _⟩
    · simp [Value.cells] at hcs
      obtain ⟨rfl, rfl, rfl⟩ := hcs
      exact ⟨_, sl_of_ints hl hm (by simpa using hz) hcell hwz⟩
  clear hA0 hval0
  refine (walk a0 len0 cap0 b0 W w0 (doorE.known_of_laid hL)).mono fun e W' ⟨he, bel⟩ => ?_
  subst he
  exact ⟨_, rfl, _, _, _, [], _, _, hW', trodAll_mk1 (shut_bool Tryd.underlying4 _), (trodAll_cons_mk (Below.trod door.laidOut (by kernel_rfl) (of_decide_eq_true (by kernel_rfl)) k0 bel lt0) trodAll_mk0), bel.trodVars door.laidOut (by kernel_rfl) hV, bel.frame _, fun h => by cases h⟩

theorem over : Rows.fnRecsRow.holds Tryd.pinned (OpenSpec.ofChange Rows.fnRecsSpec) :=
  OpenClaim.holds_of_wide 3 Tryd.f3 rfl rfl rfl rfl rfl rfl rfl ⟨rfl, rfl, rfl, rfl, rfl⟩ rfl rfl rfl rfl rfl (by kernel_rfl) Tryd.func3 (by kernel_rfl)
    (of_decide_eq_true (by kernel_rfl)) (by unfold Func.isWrapper; first | (rw [if_pos (by decide +kernel)]; kernel_rfl) | (rw [if_neg (by decide +kernel)]; exact ⟨rfl, rfl⟩))
    (fun os started H enc _ => lifted os started H enc)

theorem proved : Rows.FnRecsCardSaid :=
  Claim7.holds_tied_plain_at .later [] [.handle, .data] true (true, "676bdcf6d508b3309f940b283a0f0a096954b855a10cf9cb5f22109115c04267") true
    over (fun _ h => by cases h) (by kernel_rfl) (fun _ h => by cases h) fnRecs_row_tie rfl ⟨rfl, rfl⟩ (by kernel_rfl) rfl
    (fun f fn hf hfn => by
      obtain rfl : f = 3 := Option.some.inj ((show Tryd.prog.funcNamed "loop.example/g00244/laws.FnRecs" = some 3 by kernel_rfl).symm.trans hf) |>.symm
      obtain rfl : fn = Tryd.f3 := (Option.some.inj (Tryd.func3.symm.trans hfn)).symm
      exact ⟨by kernel_rfl, fun j t ht => by
        rw [Tryd.params3] at ht
        have hm : t ∈ [22] := by simpa using Array.mem_of_getElem? ht
        have hall : ([22].all fun u => !Tryd.prog.wantsStandIn u) = true := by kernel_rfl
        exact (show Tryd.prog.wantsStandIn t = false by simpa using List.all_eq_true.1 hall t hm)⟩)
    (by kernel_rfl)
end Go.Proofs.YtooiinicnkhlbaaDoor.fnRecs
