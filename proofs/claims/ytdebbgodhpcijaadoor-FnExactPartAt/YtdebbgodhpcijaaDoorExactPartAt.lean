/- The statement FnExactPartAtCardSaid: at every slice of pairs, pair, numbers and slice of strings FnExactPartAt answers true, and the arguments read afterwards as before, where the table of the rounds' words is as the program's text lays it (the card ties it). No condition besides the row's own. -/
import Derived.Test.YtdebbgodhpcijaaDoorRows
import Derived.Test.YtdebbgodhpcijaaDoorCards
import Derived.Test.YtdebbgodhpcijaaDoorTie
import Derived.Test.YtdebbgodhpcijaaDoorClashQ
import Derived.Test.YtdebbgodhpcijaaDoorHelpR
import Derived.Test.YtdebbgodhpcijaaDoorPutTexts
import Derived.Test.YtdebbgodhpcijaaDoorDoor
import Derived.ProofKit
import Derived.OpenShut
import Derived.ShutString
import Derived.ChangeOld
import Derived.Below
import Derived.Deep.RegionHeld3
namespace Go.Proofs.YtdebbgodhpcijaaDoor.fnExactPartAt
open Go.ChangeShapes Go.WideShapes Go.ChangeAt Go.RowKit
open Go.ChangeMaps (open_string shut_string)
set_option linter.unusedVariables false
open Go.Proofs.YtdebbgodhpcijaaDoor.base Go.Proofs.YtdebbgodhpcijaaDoor.pairs Go.Proofs.YtdebbgodhpcijaaDoor.tree Go.Proofs.YtdebbgodhpcijaaDoor.clash Go.Proofs.YtdebbgodhpcijaaDoor.helps

theorem box_keep {w wa wb : World} {x y : ByteArray} (hb : Below wa.heap.size wa wb) (hlt : w.heap.size < wa.heap.size) (h : wa.cell? ⟨w.heap.size, 0, none⟩ = some (.string x) ∧ wa.cell? ⟨w.heap.size, 1, none⟩ = some (.string y)) :
    wb.cell? ⟨w.heap.size, 0, none⟩ = some (.string x) ∧ wb.cell? ⟨w.heap.size, 1, none⟩ = some (.string y) :=
  ⟨(hb.cell (p := ⟨w.heap.size, 0, none⟩) hlt).trans h.1, (hb.cell (p := ⟨w.heap.size, 1, none⟩) hlt).trans h.2⟩
theorem eqTT (a a2 : Option Addr) (len cap len2 cap2 : Nat) (bs bs2 : List ByteArray) (w : World) (h : SlS w a len bs) (h2 : SlS w a2 len2 bs2) (he : bs = bs2) :
    Calls Tryd.prog 30 #[.slice a len cap, .slice a2 len2 cap2] w fun e w' => e = .returned (.bool true) ∧ Below w.heap.size w w' := by
  refine (eqStringS a a2 len cap len2 cap2 bs bs2 w h h2).mono ?_
  rintro e w' ⟨rfl, n, rfl⟩
  exact ⟨ret_bool (decide_eq_true he), below_drewN (Below.refl _ _) _⟩
theorem eqPP (a a2 : Option Addr) (len cap len2 cap2 : Nat) (l l2 : List Pr) (w : World) (h : SlP w a len l) (h2 : SlP w a2 len2 l2) (he : l = l2) :
    Calls Tryd.prog 29 #[.slice a len cap, .slice a2 len2 cap2] w fun e w' => e = .returned (.bool true) ∧ Below w.heap.size w w' := by
  refine (eqPairS a a2 len cap len2 cap2 l l2 w h h2).mono ?_
  rintro e w' ⟨rfl, hb⟩
  exact ⟨ret_bool (decide_eq_true he), hb⟩

set_option maxRecDepth 100000 in
set_option maxHeartbeats 2000000 in
theorem walk (a0 : Option Addr) (len0 cap0 : Nat) (b0 : List Pr) (a1 : Pr) (a2 a3 : Int) (a4 : Option Addr) (len4 cap4 : Nat) (b4 : List ByteArray) (w : World) (w0 : SlP w a0 len0 b0) (w1 : small a1) (w2 : (Lit.int .i64 a2).wf = true) (w3 : (Lit.int .i64 a3).wf = true) (w4 : SlS w a4 len4 b4) (hK : sha.KW w) :
    Calls Tryd.prog 7 #[.slice a0 len0 cap0, .agg #[.string a1.1, .string a1.2], .int .i64 a2, .int .i64 a3, .slice a4 len4 cap4] w fun e w' => e = .returned (.bool true) ∧ Below w.heap.size w w' := by
  have hl0 := w0.1
  have hl4 := w4.1
  clear w2 w3
  obtain ⟨wb, hwb⟩ : ∃ wb, wb = w.alloc (.cells #[.string a1.1, .string a1.2] 43) := ⟨_, rfl⟩
  have hba : Below w.heap.size w wb := by rw [hwb]; exact (Below.refl _ _).alloc (Nat.le_refl _) _
  have o : wb.cell? ⟨w.heap.size, 0, none⟩ = some (.string a1.1) ∧ wb.cell? ⟨w.heap.size, 1, none⟩ = some (.string a1.2) := by rw [hwb]; constructor <;> simp
  have hlt : w.heap.size < wb.heap.size := World.block_lt_of_cell? wb _ o.1
  subst hl0
  subst hl4
  have hsz := fun wx hx => szPairS a0 b0.length cap0 b0 1048576 wx (w0.below hx) (by omega)
  by_cases hover : 1048576 < b0.length + sumP b0
  · rw [pairs.szR_neg hover] at hsz
    have HZ := Hid.mk' hsz
    clear hsz
    go_enter Tryd.func7, Tryd.ntmps7
    go_wp2_with fail
    rw [← hwb]
    clear hwb
    refine (HZ.out _ hba).mono ?_
    rintro e wa ⟨rfl, hB⟩
    go_wp2_with fail
    go_ret
    exact ⟨rfl, hba.trans (hB.mono hba.size)⟩
  rw [pairs.szR_pos (by omega)] at hsz
  obtain ⟨r, hr⟩ : ∃ r : Nat, ((1048576 : Nat) : Int) - ((b0.length + sumP b0 : Nat) : Int) = (r : Int) := ⟨1048576 - (b0.length + sumP b0), by omega⟩
  rw [hr] at hsz
  have HZ := Hid.mk' hsz
  have hr1 : r ≤ 1048576 := by omega
  have hks : ∀ p ∈ b0, p.1.size ≤ 1099511627776 := fun p hp => by have := psz_le b0 p hp; unfold psz at this; omega
  clear hsz hr
  have hsz := fun wx => szPair a1 r wx w1 (by omega)
  by_cases hover1 : r < psz a1
  · rw [pairs.szR_neg hover1] at hsz
    have HZ1 := Hid.mk' hsz
    clear hsz
    go_enter Tryd.func7, Tryd.ntmps7
    go_wp2_with fail
    rw [← hwb]
    clear hwb
    refine (HZ.out _ hba).mono ?_
    rintro e wa ⟨rfl, hB⟩
    have hBa := hba.trans (hB.mono hba.size)
    obtain ⟨o1, o2⟩ := box_keep hB hlt o
    go_wp2_with fail
    refine (HZ1.out _).mono ?_
    rintro e wc ⟨rfl, hB2⟩
    have hBc := hBa.trans (hB2.mono hBa.size)
    go_wp2_with fail
    go_ret
    exact ⟨rfl, hBc⟩
  rw [pairs.szR_pos (by omega)] at hsz
  obtain ⟨r2, hr⟩ : ∃ r2 : Nat, (r : Int) - (psz a1 : Int) = (r2 : Int) := ⟨r - psz a1, by omega⟩
  rw [hr] at hsz
  have HZ1 := Hid.mk' hsz
  have hlim : lim a1 := by unfold psz at hover1; exact ⟨by omega, by omega⟩
  have hr2 : r2 ≤ 1048576 := by omega
  clear hsz hr
  have hsz := fun wx hx => puttexts.szStringS a4 b4.length cap4 b4 r2 wx (w4.below hx) (by omega)
  by_cases hover2 : r2 < b4.length + puttexts.sum b4
  · rw [puttexts.szR_neg hover2] at hsz
    have HZ2 := Hid.mk' hsz
    clear hsz
    go_enter Tryd.func7, Tryd.ntmps7
    go_wp2_with fail
    rw [← hwb]
    clear hwb
    refine (HZ.out _ hba).mono ?_
    rintro e wa ⟨rfl, hB⟩
    have hBa := hba.trans (hB.mono hba.size)
    obtain ⟨o1, o2⟩ := box_keep hB hlt o
    go_wp2_with fail
    refine (HZ1.out _).mono ?_
    rintro e wc ⟨rfl, hB2⟩
    have hBc := hBa.trans (hB2.mono hBa.size)
    go_wp2_with fail
    refine (HZ2.out _ hBc).mono ?_
    rintro e wd ⟨rfl, hwd⟩
    subst hwd
    go_wp2_with fail
    go_ret
    exact ⟨rfl, hBc⟩
  rw [puttexts.szR_pos (by omega)] at hsz
  obtain ⟨r3, hr⟩ : ∃ r3 : Nat, (r2 : Int) - ((b4.length + puttexts.sum b4 : Nat) : Int) = (r3 : Int) := ⟨r2 - (b4.length + puttexts.sum b4), by omega⟩
  rw [hr] at hsz
  have HZ2 := Hid.mk' hsz
  have hPs : ∀ s ∈ b4, s.size ≤ 137438953472 := fun s hs => by have := puttexts.size_le_sum b4 s hs; omega
  clear hsz hr
  have HS : Hid (∀ wx g g2 gb gc, OwnP wx gb g b0.length b0.length b0 → OwnS wx gc g2 b4.length b4.length b4 → Calls Tryd.prog 18 #[.slice (some ⟨g, 0, none⟩) b0.length b0.length, .agg #[.string a1.1, .string a1.2], .int .i64 a2, .int .i64 a3, .slice (some ⟨g2, 0, none⟩) b4.length b4.length] wx (PAPost wx (clash.partAt b0 a1 a2 a3 b4))) :=
    fun wx g g2 gb gc hx hy => spec_partAt g 0 b0.length b0 a1 a2 a3 g2 0 b4.length b4 wx hx.sl (Nat.le_refl _) hks hlim hy.sl hPs (Nat.le_refl _)
  have HI : Hid (∀ wx g g2 gb gc, Below w.heap.size w wx → OwnP wx gb g b0.length b0.length b0 → OwnS wx gc g2 b4.length b4.length b4 → Calls Tryd.prog 12 #[.slice (some ⟨g, 0, none⟩) b0.length b0.length, .agg #[.string a1.1, .string a1.2], .int .i64 a2, .int .i64 a3, .slice (some ⟨g2, 0, none⟩) b4.length b4.length] wx (PAPost wx (clash.partAt b0 a1 a2 a3 b4))) :=
    fun wx g g2 gb gc hw hx hy => impl_partAt g 0 b0.length b0 a1 a2 a3 g2 0 b4.length b4 wx hx.sl (Nat.le_refl _) hks hlim hy.sl hPs (Nat.le_refl _) (hK.below hw)
  obtain ⟨⟨ra, rb, rc⟩, hres⟩ : ∃ r, clash.partAt b0 a1 a2 a3 b4 = r := ⟨_, rfl⟩
  rw [hres] at HS HI
  have hln0 : b0.length ≤ 1099511627776 := by omega
  have hln4 : b4.length ≤ 1099511627776 := by omega
  have HT0 := Hid.mk' (fun wx hx => toPairS a0 b0.length cap0 b0 wx (w0.below hx) hln0)
  have HT4 := Hid.mk' (fun wx hx => toStringS a4 b4.length cap4 b4 wx (w4.below hx) hln4)
  clear hres hK hks hlim w0 w4 w1 hover hover1 hover2
  go_enter Tryd.func7, Tryd.ntmps7
  go_wp2_with fail
  rw [← hwb]
  clear hwb
  refine (HZ.out _ hba).mono ?_
  rintro e wa ⟨rfl, hB⟩
  have hBa := hba.trans (hB.mono hba.size)
  have oa := box_keep hB hlt o
  have hlta : w.heap.size < wa.heap.size := Nat.lt_of_lt_of_le hlt hB.size
  clear o hlt hB hba HZ
  obtain ⟨o1, o2⟩ := id oa
  go_wp2_with fail
  refine (HZ1.out _).mono ?_
  rintro e wc ⟨rfl, hB2⟩
  have hBc := hBa.trans (hB2.mono hBa.size)
  have oc := box_keep hB2 hlta oa
  have hltc : w.heap.size < wc.heap.size := Nat.lt_of_lt_of_le hlta hB2.size
  clear oa o1 o2 hlta hB2 hBa HZ1
  go_wp2_with fail
  refine (HZ2.out _ hBc).mono ?_
  rintro e wd ⟨rfl, hwd⟩
  subst hwd
  have hdr : Below wd.heap.size wd wd.drew := (Below.refl _ _).drew
  have hBd := hBc.trans (hdr.mono hBc.size)
  have od := box_keep hdr hltc oc
  have hltd : w.heap.size < wd.drew.heap.size := hltc
  clear HZ2 oc hBc hdr
  go_wp2_with fail
  go_region_held3 (fun w' => (w'.cell? ⟨w.heap.size, 0, none⟩ = some (.string a1.1) ∧ w'.cell? ⟨w.heap.size, 1, none⟩ = some (.string a1.2)) ∧ Below w.heap.size w w') (first | exact ⟨od, hBd⟩ | exact ⟨o6, hB6⟩ | exact ⟨o5, hB5⟩ | exact ⟨o4, hB4⟩ | exact ⟨o3, hB3⟩) (first | (go_at_call 26; refine (HT0.out _ hBd).mono ?_; rintro e w3 ⟨g3, rfl, hO3, hb3⟩; have hB3 := hBd.trans (hb3.mono hBd.size); have o3 := box_keep hb3 hltd od; have hlt3 := Nat.lt_of_lt_of_le hltd hb3.size) | (go_at_call 27; refine (toPair a1.1 a1.2 _).mono ?_; rintro e w4 ⟨rfl, hb4⟩; have hB4 := hB3.trans (hb4.mono hB3.size); have o4 := box_keep hb4 hlt3 o3; have hlt4 := Nat.lt_of_lt_of_le hlt3 hb4.size; have hO4 := hO3.below hb4) | (go_at_call 28; refine (HT4.out _ hB4).mono ?_; rintro e w5 ⟨g5, rfl, hO5, hb5⟩; have hB5 := hB4.trans (hb5.mono hB4.size); have o5 := box_keep hb5 hlt4 o4; have hlt5 := Nat.lt_of_lt_of_le hlt4 hb5.size) | (go_at_call 18; refine (HS.out _ g3 g5 _ _ (hO4.below hb5) hO5).mono ?_; rintro e w6 ⟨rfl, hb6⟩; have hB6 := hB5.trans (hb6.mono hB5.size); have o6 := box_keep hb6 hlt5 o5; have hlt6 := Nat.lt_of_lt_of_le hlt5 hb6.size))
  all_goals
    have O6 := Hid.mk' o6
    clear hO3 hO4 hO5 hb3 hb4 hb5 hb6 hB3 hB4 hB5 o3 o4 o5 o6 od hBd hlt3 hlt4 hlt5 hltd HS
    go_wp2_with fail
    refine (HT0.out _ hB6).mono ?_
    rintro e w7 ⟨g7, rfl, hO7, hb7⟩
    have hB7 := hB6.trans (hb7.mono hB6.size)
    have o7 := box_keep hb7 hlt6 O6.out
    have hlt7 := Nat.lt_of_lt_of_le hlt6 hb7.size
    clear hb7 O6 hlt6
    go_wp2_with fail
    refine (HT4.out _ hB7).mono ?_
    rintro e w8 ⟨g8, rfl, hO8, hb8⟩
    have hB8 := hB7.trans (hb8.mono hB7.size)
    obtain ⟨p1, p2⟩ := box_keep hb8 hlt7 o7
    have hO7b := hO7.below hb8
    clear hb8 o7 hlt7 hO7
    go_wp2_with fail
    refine (toPair a1.1 a1.2 _).mono ?_
    rintro e w9 ⟨rfl, hb9⟩
    have hB9 := hB8.trans (hb9.mono hB8.size)
    have hO7c := hO7b.below hb9
    have hO8c := hO8.below hb9
    clear hb9 hO7b hO8 p1 p2
    go_wp2_with fail
    refine (HI.out _ g7 g8 _ _ hB9 hO7c hO8c).mono ?_
    rintro e w10 ⟨rfl, hb10⟩
    have hB10 := hB9.trans (hb10.mono hB9.size)
    have hO7d := hO7c.below hb10
    have hO8d := hO8c.below hb10
    clear hb10 hO7c hO8c HI
    have he1 : (ra.toList == ra.toList) = true := beq_self_eq_true _
    have he2 : (rb.toList == rb.toList) = true := beq_self_eq_true _
    cases rc
    all_goals
      go_wp2_with fail
      refine (HT0.out _ hB10).mono ?_
      rintro e w11 ⟨g11, rfl, hO11, hb11⟩
      have hB11 := hB10.trans (hb11.mono hB10.size)
      go_wp2_with fail
      refine (eqPP _ _ _ _ _ _ _ _ _ (hO7d.below hb11).sl hO11.sl rfl).mono ?_
      rintro e w12 ⟨rfl, hb12⟩
      have hB12 := hB11.trans (hb12.mono hB11.size)
      go_wp2_with fail
      refine (HT4.out _ hB12).mono ?_
      rintro e w13 ⟨g13, rfl, hO13, hb13⟩
      have hB13 := hB12.trans (hb13.mono hB12.size)
      go_wp2_with fail
      refine (eqTT _ _ _ _ _ _ _ _ _ (((hO8d.below hb11).below hb12).below hb13).sl hO13.sl rfl).mono ?_
      rintro e w14 ⟨rfl, hb14⟩
      have hB14 := hB13.trans (hb14.mono hB13.size)
      go_wp2_with fail
      go_ret
      exact ⟨rfl, hB14⟩

set_option maxRecDepth 100000 in
theorem lifted (os : Os) (started : os.Started) (H : Type) (enc : TypeId × Value → H) :
    ReturnsInHanded {} Tryd.checked os 7 .any (fun w args => (Rows.fnExactPartAtSpec.pre enc Tryd.prog Tryd.f7 [] false w args ∧ laidMetH Tryd.prog door.laidD w) ∧ sizedMet enc Tryd.prog Tryd.f7 (OpenSpec.ofChange Rows.fnExactPartAtSpec) false w args)
      (Rows.fnExactPartAtSpec.post enc Tryd.prog Tryd.f7 false true false false) := by
  refine returnsInHanded_of_change_and (C := Tryd.checked) (X := fun w _ => laidMetH Tryd.prog door.laidD w) (fun _ _ _ hh h => h.of_heap hh) door.own started (by kernel_rfl) Tryd.func7
    (ChangeSpec.witness_shaped (enc := enc) (C := Tryd.checked) (os := os) (X := fun w _ => laidMetH Tryd.prog door.laidD w) false (World.laidAll Tryd.prog os door.laidD) #[.slice none 0 0, .agg #[.string ByteArray.empty, .string ByteArray.empty], .int .i64 0, .int .i64 0, .slice none 0 0] 70 (World.laidAll_os _ _ _) (World.shaped_of_ZipB (by kernel_rfl) (by kernel_rfl)) (by kernel_rfl) (by kernel_rfl) (by kernel_rfl)
      (by rw [MakeChecks.laidMetH_plain _ _ _ (by kernel_rfl)]; exact laidMet_laidAll _ (by kernel_rfl) (by kernel_rfl))) ?_
  intro W base args ds gs before hval0 hW _ _ hL _
  have hval : ∀ (j : Nat) t v, Tryd.f7.params[j]? = some t → args[j]? = some v → Value.okWide Tryd.prog W .any base t v := hval0
  have hW' := hW
  obtain ⟨p, q, hA0, hV, rfl, hfz, hnd⟩ := hW
  have hA : DataW.TrodAll enc Tryd.prog W 0 (fun _ => true) true Tryd.f7.params.toList args.toList ds p := hA0
  rw [Tryd.params7] at hA hval
  obtain ⟨v0, vs0, d0, ds0, p0, q0, hargs, rfl, rfl, h0, r0⟩ := trodAll_cons hA
  obtain ⟨v1, vs1, d1, ds1, p1, q1, rfl, rfl, rfl, h1, r1⟩ := trodAll_cons r0
  obtain ⟨v2, vs2, d2, ds2, p2, q2, rfl, rfl, rfl, h2, r2⟩ := trodAll_cons r1
  obtain ⟨v3, vs3, d3, ds3, p3, q3, rfl, rfl, rfl, h3, r3⟩ := trodAll_cons r2
  obtain ⟨v4, vs4, d4, ds4, p4, q4, rfl, rfl, rfl, h4, r4⟩ := trodAll_cons r3
  obtain ⟨rfl, rfl, rfl⟩ := trodAll_nil r4
  obtain rfl : args = #[v0, v1, v2, v3, v4] := by cases args; simp_all
  obtain ⟨gv, tv, csv, fv, dv, pv, rfl, _, _, _, _, _⟩ := trodVars_one (show DataW.TrodVars enc Tryd.prog W (fun _ => true) ["loop.example/g00244/impl.roundWords"] gs q from hV)
  obtain ⟨a0, len0, cap0, rfl⟩ := okWide_slice Tryd.underlying42 (hval 0 42 v0 rfl rfl)
  have k0 := h0
  have lt0 : ∀ x ∈ p0, x.block < W.heap.size := by obtain ⟨m, hm⟩ := k0; exact DataW.trod_lt m _ _ _ hm
  obtain ⟨b0, w0⟩ : ∃ l, SlP W a0 len0 l := by obtain ⟨fuel, hf⟩ := h0; exact slp_arg 42 43 _ _ Tryd.underlying42 Tryd.underlying43 (by kernel_rfl) rfl rfl rfl rfl (by kernel_rfl) hf
  have k1 := h1
  have lt1 : ∀ x ∈ p1, x.block < W.heap.size := by obtain ⟨m, hm⟩ := k1; exact DataW.trod_lt m _ _ _ hm
  obtain ⟨a1, rfl, w1⟩ : ∃ p : Pr, v1 = .agg #[.string p.1, .string p.2] ∧ small p := by obtain ⟨fuel, hf⟩ := h1; exact pair_arg 43 _ _ Tryd.underlying43 (by kernel_rfl) rfl rfl rfl rfl (by kernel_rfl) (hval 1 43 v1 rfl rfl) hf
  obtain ⟨a2, rfl, rfl, rfl, w2⟩ := open_int Tryd.underlying3 (hval 2 3 v2 rfl rfl) h2
  obtain ⟨a3, rfl, rfl, rfl, w3⟩ := open_int Tryd.underlying3 (hval 3 3 v3 rfl rfl) h3
  obtain ⟨a4, len4, cap4, rfl⟩ := okWide_slice Tryd.underlying32 (hval 4 32 v4 rfl rfl)
  have k4 := h4
  have lt4 : ∀ x ∈ p4, x.block < W.heap.size := by obtain ⟨m, hm⟩ := k4; exact DataW.trod_lt m _ _ _ hm
  obtain ⟨b4, w4⟩ : ∃ ss, SlS W a4 len4 ss := by
    obtain ⟨fuel, hf⟩ := h4
    rcases open_strings Tryd.underlying32 Tryd.underlying9 (by kernel_rfl) hf with ⟨hcs, _⟩ | ⟨x, l, c, zs, hcs, _, hl, hm, hz, _, hcell, hwz⟩
    · simp [Value.cells] at hcs
      obtain ⟨rfl, rfl, rfl⟩ := hcs
      exact ⟨[], sls_nil _ _⟩
    · simp [Value.cells] at hcs
      obtain ⟨rfl, rfl, rfl⟩ := hcs
      exact ⟨_, sls_of_strings hl hm (by simpa using hz) hcell hwz⟩
  clear hA0 hval0
  refine (walk a0 len0 cap0 b0 a1 a2 a3 a4 len4 cap4 b4 W w0 w1 w2 w3 w4 (door.words_of_laid hL)).mono fun e W' ⟨he, bel⟩ => ?_
  subst he
  exact ⟨_, rfl, _, _, _, [], _, _, hW', trodAll_mk1 (shut_bool Tryd.underlying4 _), (trodAll_cons_mk (Below.trod door.laidOut (by kernel_rfl) (of_decide_eq_true (by kernel_rfl)) k0 bel lt0) (trodAll_cons_mk (Below.trod door.laidOut (by kernel_rfl) (of_decide_eq_true (by kernel_rfl)) k1 bel lt1) (trodAll_cons_mk (shut_int Tryd.underlying3 w2) (trodAll_cons_mk (shut_int Tryd.underlying3 w3) (trodAll_cons_mk (Below.trod door.laidOut (by kernel_rfl) (of_decide_eq_true (by kernel_rfl)) k4 bel lt4) trodAll_mk0))))), bel.trodVars door.laidOut (by kernel_rfl) hV, bel.frame _, fun h => by cases h⟩

theorem over : Rows.fnExactPartAtRow.holds Tryd.pinned (OpenSpec.ofChange Rows.fnExactPartAtSpec) :=
  OpenClaim.holds_of_wide 7 Tryd.f7 rfl rfl rfl rfl rfl rfl rfl ⟨rfl, rfl, rfl, rfl, rfl⟩ rfl rfl rfl rfl rfl (by kernel_rfl) Tryd.func7 (by kernel_rfl)
    (of_decide_eq_true (by kernel_rfl)) (by unfold Func.isWrapper; first | (rw [if_pos (by decide +kernel)]; kernel_rfl) | (rw [if_neg (by decide +kernel)]; exact ⟨rfl, rfl⟩))
    (fun os started H enc _ => lifted os started H enc)

theorem proved : Rows.FnExactPartAtCardSaid :=
  Claim7.holds_tied_plain_at .later [] [.data] true (true, "5cdd0034906363510551842fd72a75f8565cb97764f571c82cbad23a3f3328e0") false
    over (fun _ h => by cases h) (by kernel_rfl) (fun _ h => by cases h) fnExactPartAt_row_tie rfl ⟨rfl, rfl⟩ (by kernel_rfl) rfl
    (fun f fn hf hfn => by
      obtain rfl : f = 7 := Option.some.inj ((show Tryd.prog.funcNamed "loop.example/g00244/laws.FnExactPartAt" = some 7 by kernel_rfl).symm.trans hf) |>.symm
      obtain rfl : fn = Tryd.f7 := (Option.some.inj (Tryd.func7.symm.trans hfn)).symm
      exact ⟨by kernel_rfl, fun j t ht => by
        rw [Tryd.params7] at ht
        have hm : t ∈ [42, 43, 3, 3, 32] := by simpa using Array.mem_of_getElem? ht
        have hall : ([42, 43, 3, 3, 32].all fun u => !Tryd.prog.wantsStandIn u) = true := by kernel_rfl
        exact (show Tryd.prog.wantsStandIn t = false by simpa using List.all_eq_true.1 hall t hm)⟩)
    (by kernel_rfl)
end Go.Proofs.YtdebbgodhpcijaaDoor.fnExactPartAt
