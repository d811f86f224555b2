/- The statement FnExactReadRecsCardSaid: at every slice of bytes FnExactReadRecs answers true, and the arguments read afterwards as before, where the table of the rounds' words is as the program's text lays it (the card ties it). No condition besides the row's own. -/
import Derived.Test.YtooiinicnkhlbaaDoorRows
import Derived.Test.YtooiinicnkhlbaaDoorCards
import Derived.Test.YtooiinicnkhlbaaDoorTie
import Derived.Test.YtooiinicnkhlbaaDoorBund8ax
import Derived.Test.YtooiinicnkhlbaaDoorBund8ay
import Derived.ProofKit
import Derived.OpenShut
import Derived.ShutString
import Derived.ChangeOld
import Derived.Below
namespace Go.Proofs.YtooiinicnkhlbaaDoor.fnExactReadRecs
open Go.ChangeShapes Go.WideShapes Go.ChangeAt Go.RowKit
open Go.ChangeMaps (open_string shut_string)
set_option linter.unusedVariables false
open Go.Proofs.YtooiinicnkhlbaaDoor.base Go.Proofs.YtooiinicnkhlbaaDoor.pairs Go.Proofs.YtooiinicnkhlbaaDoor.ords Go.Proofs.YtooiinicnkhlbaaDoor.help Go.Proofs.YtooiinicnkhlbaaDoor.helps Go.Proofs.YtooiinicnkhlbaaDoor.recs

set_option maxRecDepth 100000 in
set_option maxHeartbeats 4000000 in
theorem walk (a : Option Addr) (len cap : Nat) (bs : List UInt8) (w : World) (h : Sl w a len bs) (hK : KR w) :
    Calls Tryd.prog 9 #[.slice a len cap] w fun e w' => e = .returned (.bool true) ∧ Below w.heap.size w w' := by
  have hlen := h.1
  have hm0 := h.2.1
  unfold maxLen at hm0
  by_cases hbig : 1048576 < len
  · go_enter Tryd.func9, Tryd.ntmps9
    go_wp2_with fail
    go_ret
    exact ⟨rfl, Below.refl _ _⟩
  obtain ⟨hl1, hl2⟩ := readRecs_fits bs
  obtain ⟨L, hL⟩ : ∃ L, (readRecs bs).1 = L := ⟨_, rfl⟩
  obtain ⟨q, hq⟩ : ∃ q : Int, ((readRecs bs).2 : Int) = q := ⟨_, rfl⟩
  rw [hL] at hl1 hl2
  have hl3 : L.length ≤ 1048576 := by omega
  have hl4 : cntR L ≤ 33554432 := by omega
  have HTP := Hid.mk' (fun wx (hx : Below w.heap.size w wx) => toByteS a len cap bs wx (h.below hx) (by omega))
  have HKW : Hid (∀ wx, Below w.heap.size w wx → KR wx) := fun wx hx => hK.below hx
  have HSC := Hid.mk' (fun g base wx (ho : Own wx base g len len bs) => (spec_readRecs (some ⟨g, 0, none⟩) len len bs wx ho.sl (Nat.le_refl _) (by omega)).mono fun e w' hp => readPost_open hL hq hp)
  have HIC := Hid.mk' (fun g base wx (ho : Own wx base g len len bs) (hk : KR wx) => (impl_readRecs (some ⟨g, 0, none⟩) len len bs wx ho.sl (Nat.le_refl _) (by omega) hk).mono fun e w' hp => readPost_open hL hq hp)
  have HL := Hid.mk' hl3
  have HC := Hid.mk' hl4
  clear hL hq hl1 hl2 hl3 hl4 h hlen hm0
  go_enter Tryd.func9, Tryd.ntmps9
  go_wp2_with fail
  refine (HTP.out _ (Below.refl _ _)).mono ?_
  rintro e wa ⟨g1, rfl, hO1, hB1⟩
  go_wp2_with fail
  refine (HSC.out _ _ _ hO1).mono ?_
  rintro e wb ⟨aw, cs, hss, rfl, hOs, hBs⟩
  have hBc := hB1.trans (hBs.mono hB1.size)
  have HS := Hid.mk' (hOs.mono (base' := w.heap.size) hB1.size)
  have HSL := Hid.mk' (fun k e => (hOs.lt k e).2)
  clear hO1 hB1 hOs hBs
  go_wp2_with fail
  refine (HTP.out _ hBc).mono ?_
  rintro e wc ⟨gx, rfl, hOx, hBx⟩
  have hBd := hBc.trans (hBx.mono hBc.size)
  have HX := Hid.mk' hOx
  clear hOx
  go_wp2_with fail
  refine (HIC.out _ _ _ HX.out (HKW.out _ hBd)).mono ?_
  rintro e wd ⟨ag, cg, hsg, rfl, hOg, hBg⟩
  have HT1 : Hid (TriR w wd (.slice aw L.length cs) (.slice ag L.length cg) hss hsg gx len bs L L) :=
    ⟨hBd.trans (hBg.mono hBd.size), (HX.out.mono hBc.size).below hBg, (HS.out.below hBx).below hBg, hOg.mono hBd.size, fun k e => by have := HSL.out k e; have := HX.out.lt; omega, fun k e => by have := (hOg.lt k e).1; have := HX.out.lt; omega⟩
  obtain ⟨n, hn⟩ : ∃ n, L.length = n := ⟨_, rfl⟩
  have HN := Hid.mk' hn
  rw [hn] at HT1 ⊢
  have hnl : n ≤ 1048576 := by have := HL.out; omega
  clear HS HSL HX hBx hBc hBd hBg hOg hn
  go_wp2_with fail
  refine (eqRecsT _ _ _ _ _ L _ HT1.out.g.sl HT1.out.s.sl).mono ?_
  rintro e y2 ⟨rfl, hB⟩
  have HT2 := Hid.mk' (HT1.out.below hB)
  clear HT1 hB
  go_wp2_with fail
  refine (HTP.out _ HT2.out.bel).mono ?_
  rintro e y3 ⟨gy, rfl, hOy, hBy⟩
  have HT3 := Hid.mk' (HT2.out.below hBy)
  clear HT2 hBy
  go_wp2_with fail
  refine (eqB _ _ _ _ _ _ _ _ _ HT3.out.x.sl hOy.sl rfl).mono ?_
  rintro e y4 ⟨rfl, hB⟩
  have HT4 := Hid.mk' (HT3.out.below hB)
  clear HT3 hB hOy
  go_wp2_with fail
  refine (mark1 _ _ _ _ _ _ HT4.out.x (by omega)).mono ?_
  rintro e y5 ⟨rfl, hx5, hg5⟩
  have HT5 := Hid.mk' (HT4.out.markX hx5 hg5)
  clear HT4 hx5 hg5
  go_wp2_with fail
  refine (eqRecsT _ _ _ _ _ L _ HT5.out.g.sl HT5.out.s.sl).mono ?_
  rintro e y6 ⟨rfl, hB⟩
  have HT6 := Hid.mk' (HT5.out.below hB)
  clear HT5 hB
  go_wp2_with fail
  refine (markRecS _ _ 1 L _ _ HT6.out.g (by have := HT6.out.bel.size; omega) (by omega) (by have := HC.out; omega) (by have := HL.out; omega) _ (by show _ = _; rfl)).mono ?_
  rintro e y7 ⟨rfl, hx7, hg7⟩
  have HT7 := Hid.mk' (HT6.out.markG hx7 hg7)
  clear HT6 hx7 hg7
  go_wp2_with fail
  refine (heldRecS _ _ _ 1 L _ HT7.out.g.sl (by omega) (by have := HC.out; omega) (by have := HL.out; omega) _ (by show _ = _; rfl)).mono ?_
  rintro e y8 ⟨rfl, hB⟩
  have HT8 := Hid.mk' (HT7.out.below hB)
  clear HT7 hB
  go_wp2_with fail
  refine (HTP.out _ HT8.out.bel).mono ?_
  rintro e y9 ⟨gz, rfl, hOz, hBz⟩
  have HT9 := Hid.mk' (HT8.out.below hBz)
  have HOZ := Hid.mk' hOz
  clear HT8 hBz hOz
  go_wp2_with fail
  refine (HIC.out _ _ _ HOZ.out (HKW.out _ HT9.out.bel)).mono ?_
  rintro e y10 ⟨ah, ch, hsh, rfl, hOh, hBh⟩
  rw [HN.out] at hOh ⊢
  have HT10 := Hid.mk' (HT9.out.below hBh)
  have HOH := Hid.mk' hOh
  clear HT9 hBh hOh HOZ
  go_wp2_with fail
  refine (eqRecsT _ _ _ _ _ L _ HOH.out.sl HT10.out.s.sl).mono ?_
  rintro e y11 ⟨rfl, hB⟩
  have HT11 := Hid.mk' (HT10.out.below hB)
  clear HT10 hB HOH
  go_wp2_with fail
  refine (heldRecS _ _ _ 1 L _ HT11.out.g.sl (by omega) (by have := HC.out; omega) (by have := HL.out; omega) _ (by show _ = _; rfl)).mono ?_
  rintro e y12 ⟨rfl, hB⟩
  have T12 := HT11.out.below hB
  clear HT11 hB
  go_wp2_with fail
  go_ret
  exact ⟨rfl, T12.bel⟩

set_option maxRecDepth 100000 in
theorem lifted (os : Os) (started : os.Started) (H : Type) (enc : TypeId × Value → H) :
    ReturnsInHanded {} Tryd.checked os 9 .any (fun w args => (Rows.fnExactReadRecsSpec.pre enc Tryd.prog Tryd.f9 [] false w args ∧ laidMetH Tryd.prog doorE.laidE w) ∧ sizedMet enc Tryd.prog Tryd.f9 (OpenSpec.ofChange Rows.fnExactReadRecsSpec) false w args)
      (Rows.fnExactReadRecsSpec.post enc Tryd.prog Tryd.f9 false true false false) := by
  refine returnsInHanded_of_change_and (C := Tryd.checked) (X := fun w _ => laidMetH Tryd.prog doorE.laidE w) (fun _ _ _ hh h => h.of_heap hh) door.own started (by kernel_rfl) Tryd.func9
    (ChangeSpec.witness_shaped (enc := enc) (C := Tryd.checked) (os := os) (X := fun w _ => laidMetH Tryd.prog doorE.laidE w) false (({ World.holding Tryd.prog os ⟨#[], #[], []⟩ with heap := (World.holding Tryd.prog os ⟨#[], #[], []⟩).heap.setIfInBounds 0 (.cells #[.iface 130 (.agg #[.pointer (some ⟨2, 62, none⟩)])] 98 (0, 0)) } : World).layVars Tryd.prog door.laidD) #[.slice none 0 0] 70 (doorE.laidW_os os) (World.shaped_of_ZipB (by kernel_rfl) (by kernel_rfl)) (by kernel_rfl) (by kernel_rfl) (by kernel_rfl)
      (doorE.laidW_met os _)) ?_
  intro W base args ds gs before hval0 hW _ _ hL _
  have hval : ∀ (j : Nat) t v, Tryd.f9.params[j]? = some t → args[j]? = some v → Value.okWide Tryd.prog W .any base t v := hval0
  have hW' := hW
  obtain ⟨p, q, hA0, hV, rfl, hfz, hnd⟩ := hW
  have hA : DataW.TrodAll enc Tryd.prog W 0 (fun _ => true) true Tryd.f9.params.toList args.toList ds p := hA0
  rw [Tryd.params9] at hA hval
  obtain ⟨v0, vs0, d0, ds0, p0, q0, hargs, rfl, rfl, h0, r0⟩ := trodAll_cons hA
  obtain ⟨rfl, rfl, rfl⟩ := trodAll_nil r0
  obtain rfl : args = #[v0] := by cases args; simp_all
  obtain ⟨gv, tv, csv, fv, dv, pv, rfl, _, _, _, _, _⟩ := trodVars_one (show DataW.TrodVars enc Tryd.prog W (fun _ => true) ["loop.example/g00244/impl.roundWords"] gs q from hV)
  obtain ⟨a0, len0, cap0, rfl⟩ := okWide_slice Tryd.underlying22 (hval 0 22 v0 rfl rfl)
  have k0 := h0
  have lt0 : ∀ x ∈ p0, x.block < W.heap.size := by obtain ⟨m, hm⟩ := k0; exact DataW.trod_lt m _ _ _ hm
  obtain ⟨b0, w0⟩ : ∃ bs, Sl W a0 len0 bs := by
    obtain ⟨fuel, hf⟩ := h0
    rcases open_ints Tryd.underlying22 Tryd.underlying5 (by kernel_rfl) hf with ⟨hcs, _⟩ | ⟨x, l, c, zs, hcs, _, hl, hm, hz, _, hcell, hwz⟩
    · simp [Value.cells] at hcs
      obtain ⟨rfl, rfl, rfl⟩ := hcs
      exact ⟨[], sl_nil _ _⟩
    · simp [Value.cells] at hcs
      obtain ⟨rfl, rfl, rfl⟩ := hcs
      exact ⟨_, sl_of_ints hl hm (by simpa using hz) hcell hwz⟩
  clear hA0 hval0
  refine (walk a0 len0 cap0 b0 W w0 (doorE.known_of_laid hL)).mono fun e W' ⟨he, bel⟩ => ?_
  subst he
  exact ⟨_, rfl, _, _, _, [], _, _, hW', trodAll_mk1 (shut_bool Tryd.underlying4 _), (trodAll_cons_mk (Below.trod door.laidOut (by kernel_rfl) (of_decide_eq_true (by kernel_rfl)) k0 bel lt0) trodAll_mk0), bel.trodVars door.laidOut (by kernel_rfl) hV, bel.frame _, fun h => by cases h⟩

theorem over : Rows.fnExactReadRecsRow.holds Tryd.pinned (OpenSpec.ofChange Rows.fnExactReadRecsSpec) :=
  OpenClaim.holds_of_wide 9 Tryd.f9 rfl rfl rfl rfl rfl rfl rfl ⟨rfl, rfl, rfl, rfl, rfl⟩ rfl rfl rfl rfl rfl (by kernel_rfl) Tryd.func9 (by kernel_rfl)
    (of_decide_eq_true (by kernel_rfl)) (by unfold Func.isWrapper; first | (rw [if_pos (by decide +kernel)]; kernel_rfl) | (rw [if_neg (by decide +kernel)]; exact ⟨rfl, rfl⟩))
    (fun os started H enc _ => lifted os started H enc)

theorem proved : Rows.FnExactReadRecsCardSaid :=
  Claim7.holds_tied_plain_at .later [] [.handle, .data] true (true, "676bdcf6d508b3309f940b283a0f0a096954b855a10cf9cb5f22109115c04267") true
    over (fun _ h => by cases h) (by kernel_rfl) (fun _ h => by cases h) fnExactReadRecs_row_tie rfl ⟨rfl, rfl⟩ (by kernel_rfl) rfl
    (fun f fn hf hfn => by
      obtain rfl : f = 9 := Option.some.inj ((show Tryd.prog.funcNamed "loop.example/g00244/laws.FnExactReadRecs" = some 9 by kernel_rfl).symm.trans hf) |>.symm
      obtain rfl : fn = Tryd.f9 := (Option.some.inj (Tryd.func9.symm.trans hfn)).symm
      exact ⟨by kernel_rfl, fun j t ht => by
        rw [Tryd.params9] at ht
        have hm : t ∈ [22] := by simpa using Array.mem_of_getElem? ht
        have hall : ([22].all fun u => !Tryd.prog.wantsStandIn u) = true := by kernel_rfl
        exact (show Tryd.prog.wantsStandIn t = false by simpa using List.all_eq_true.1 hall t hm)⟩)
    (by kernel_rfl)
end Go.Proofs.YtooiinicnkhlbaaDoor.fnExactReadRecs
