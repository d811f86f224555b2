/- The statement FnRootsCardSaid: at every slice of bytes FnRoots answers true, and the slice reads afterwards as before, where the table of the rounds' words is as the program's text lays it (the card ties it). No condition besides the row's own. -/
import Derived.Test.YtdebbgodhpcijaaDoorRows
import Derived.Test.YtdebbgodhpcijaaDoorCards
import Derived.Test.YtdebbgodhpcijaaDoorTie
import Derived.Test.YtdebbgodhpcijaaDoorClashQ
import Derived.Test.YtdebbgodhpcijaaDoorClashR
import Derived.Test.YtdebbgodhpcijaaDoorDrawG
import Derived.Test.YtdebbgodhpcijaaDoorDrawA
import Derived.Test.YtdebbgodhpcijaaDoorDoor
import Derived.ProofKit
import Derived.OpenShut
import Derived.ShutString
import Derived.ChangeOld
import Derived.Below
import Derived.Deep.RegionHeld3
namespace Go.Proofs.YtdebbgodhpcijaaDoor.fnRoots
open Go.ChangeShapes Go.WideShapes Go.ChangeAt Go.RowKit
open Go.ChangeMaps (open_string shut_string)
set_option linter.unusedVariables false
open Go.Proofs.YtdebbgodhpcijaaDoor.base Go.Proofs.YtdebbgodhpcijaaDoor.pairs Go.Proofs.YtdebbgodhpcijaaDoor.tree Go.Proofs.YtdebbgodhpcijaaDoor.clash Go.Proofs.YtdebbgodhpcijaaDoor.draw

theorem append_size' (a b : ByteArray) : (a ++ b).size = a.size + b.size := ByteArray.size_append
set_option maxRecDepth 100000 in
set_option maxHeartbeats 4000000 in
theorem walk (a0 : Option Addr) (len0 cap0 : Nat) (b0 : List UInt8) (w : World) (w0 : Sl w a0 len0 b0) (hK : sha.KW w) :
    Calls Tryd.prog 3 #[.slice a0 len0 cap0] w fun e w' => e = .returned (.bool true) ∧ Below w.heap.size w w' := by
  have hm := w0.2.1
  by_cases hbig : 1048576 < len0
  · have hb := big_ a0 len0 cap0 w hm
    rw [decide_eq_true (by omega)] at hb
    have HB := Hid.mk' hb
    clear hb
    go_enter Tryd.func3, Tryd.ntmps3
    go_wp2_with fail
    refine HB.out.mono ?_
    rintro e wa ⟨rfl, rfl⟩
    go_wp2_with fail
    go_ret
    exact ⟨rfl, Below.refl _ _⟩
  · have hb := big_ a0 len0 cap0 w hm
    rw [decide_eq_false (by omega)] at hb
    have HB := Hid.mk' hb
    clear hb
    obtain ⟨i0, hif, hz0, hz1, hz2⟩ := info_parts infoP
    go_enter Tryd.func3, Tryd.ntmps3
    go_wp2_with fail
    refine HB.out.mono ?_
    rintro e wa ⟨rfl, hwa⟩
    subst hwa
    go_wp2_with fail
    refine (drawPlaceG a0 len0 cap0 b0 _ w0 (by omega)).mono ?_
    rintro e w1 ⟨g, n, cp, i, l, hn, hin, hgd, rfl, hO1, hB1⟩
    have hl := hO1.1
    subst hl
    have ht := good1_tiny hgd
    have hcp := hO1.cases
    have hO2 := ownP_made w1 w1.heap.size (Nat.le_refl _)
    have hs1 := hB1.size
    have hc3 : 0 + l.length ≤ maxLen := by unfold maxLen; omega
    have hc4 : (0 + l.length) * 32 ≤ 140737488355328 := by omega
    have hba : Below w1.heap.size w1 (w1.alloc (.cells #[] 28)) := (Below.refl _ _).alloc (Nat.le_refl _) _
    have hO1a := hO1.below hba
    have hgl := hO1.lt
    have hlim : ∀ p ∈ l, lim p := fun p hp => ⟨Nat.le_trans (ht p hp).1 (by omega), Nat.le_trans (ht p hp).2 (by omega)⟩
    go_wp2_with (at_builtin; refine wpList_append_own _ rfl (.tmp 18) (.tmp 19) 24 rfl w1.heap.size 28 i0 (.agg #[.string ⟨#[]⟩, .string ⟨#[]⟩]) 2 32 Tryd.underlying24 hif hz0 hz1 hz2 rfl (by decide) _ _ _ rfl hO2.2.2 ⟨g, 0, none⟩ l.length cp (pairVals l) rfl (pairVals_length l) (cells_pairs hO1a.cell) (pairVals_oneCell l) hc3 hc4 (le_alloc _ _ (Nat.le_refl _)) ?_)
    intro v3 w3 hown hgrow hnn
    have hnn' : ¬ v3 = .slice none 0 0 := fun e => by first | exact hnn e | (have := (hnn.1 e).2; omega)
    obtain ⟨gm, cm, hv, hOm⟩ := ownP_val (w' := w3) (base := w1.heap.size) (n := l.length) (l := l) rfl hO1.2.1 hnn' (by have h9 := hown; rw [show pairVals [] ++ pairVals l = pairVals l from rfl] at h9; simpa using h9)
    subst hv
    have hgr3 : (w1.alloc (.cells #[] 28)).grownBy w3 (some w1.heap.size) := hgrow
    have hB3 : Below w1.heap.size w1 w3 := hba.grown hgr3 hba.size (fun k e => by cases e; exact Nat.le_refl _)
    have hO3 := hO1.below hB3
    have hB3a := hB1.trans (hB3.mono hB1.size)
    have hcm := hOm.cases
    have hgm := hOm.lt
    have c1 := hOm.val i hin
    have c2 := hOm.frozen (i * 2 + 1)
    have hii : (i : Int) < (l.length : Int) := by omega
    obtain ⟨z, hz⟩ : ∃ z, l[i].2 ++ (⟨#[33]⟩ : ByteArray) = z := ⟨_, rfl⟩
    have hzs : z.size = l[i].2.size + 1 := by rw [← hz, append_size']; rfl
    have htl := ht _ (List.getElem_mem hin)
    have hzm : z.size ≤ 22 := by have := htl.2; omega
    have R := hOm.setVal i hin z (Nat.le_trans hzm (by decide))
    obtain ⟨w4, hw4⟩ : ∃ w4, w3.setCell ⟨gm, i * 2 + 1, none⟩ (.string z) = w4 := ⟨_, rfl⟩
    rw [hw4] at R
    have hO4 := hO3.grown R.2 (by simp; omega)
    have hB4 : Below wa.heap.size wa w4 := hB3a.grown R.2 hB3a.size (fun k e => by cases e; omega)
    have hOm4 := R.1
    obtain ⟨q, hq⟩ : ∃ q : Pr, q = (l[i].1, z) := ⟨_, rfl⟩
    rw [← hq] at hOm4
    have hq1 : q.1 = l[i].1 := by rw [hq]
    have hq2 : q.2 = z := by rw [hq]
    have hne : q ≠ l[i] := fun e => by
      have := congrArg (fun p : Pr => p.2.size) e
      simp only [hq2, hzs] at this
      omega
    have hqlim : lim q := ⟨by rw [hq1]; have := htl.1; omega, by rw [hq2]; omega⟩
    have hfit : fit q := ⟨by rw [hq1]; have := htl.1; omega, by rw [hq2]; omega⟩
    have hturn := root_turn l i q hgd hin hfit hne
    have hPAis := partAt_is l q (i : Int) (l.length : Int) (path (l.set i q) i)
    have hml : (l.set i q).length = l.length := List.length_set
    have hmlim : ∀ p ∈ l.set i q, lim p := fun p hp => by
      rcases List.mem_or_eq_of_mem_set hp with h1 | h1
      · exact hlim p h1
      · subst h1; exact hqlim
    have k1 := hOm4.key i (by rw [hml]; exact hin)
    have k2 := hOm4.val i (by rw [hml]; exact hin)
    rw [List.getElem_set_self] at k1 k2
    clear R hq hq1 hq2 hne hfit
    generalize l.set i q = m at *
    have HRI : Hid (rootI l = rootOf l) := by show _ = _; unfold rootI; rw [if_pos (by omega)]
    have HRM : Hid (rootI m = rootOf m) := by show _ = _; unfold rootI; rw [if_pos (by omega)]
    have hrs : (rootOf l).size = 32 := dg_size _
    have hrm : (rootOf m).size = 32 := dg_size _
    have hkx := hK.below hB4
    have hps := path_small m i
    have hPlim : ∀ s ∈ path m i, s.size ≤ 137438953472 := fun s hs => by rw [hps s hs]; omega
    have hsm := partAt_small l q (i : Int) (l.length : Int) (path m i) hqlim hPlim
    have HPI : Hid (pathI m (i : Int) = path m i) := by show _ = _; unfold pathI; rw [if_pos (by omega), Int.toNat_natCast]
    have HR1 : Hid (∀ wx, Below w4.heap.size w4 wx → Calls Tryd.prog 10 #[.slice (some ⟨g, 0, none⟩) l.length cp] wx fun e w' => e = .returned (.string (rootOf l)) ∧ Below wx.heap.size wx w') := fun wx hx => by
      have := impl_rootOf g 0 l.length cp l wx (hO4.sl.below hx) hcp.1 hlim (hkx.below hx)
      rw [HRI.out] at this; exact this
    have HR2 : Hid (∀ wx, Below w4.heap.size w4 wx → Calls Tryd.prog 10 #[.slice (some ⟨gm, 0, none⟩) l.length cm] wx fun e w' => e = .returned (.string (rootOf m)) ∧ Below wx.heap.size wx w') := fun wx hx => by
      have := impl_rootOf gm 0 l.length cm m wx (hOm4.sl.below hx) hcm.1 hmlim (hkx.below hx)
      rw [HRM.out] at this; exact this
    have HR3 : Hid (∀ wx, Below w4.heap.size w4 wx → Calls Tryd.prog 11 #[.slice (some ⟨g, 0, none⟩) l.length cp] wx fun e w' => e = .returned (.string (rootOf l)) ∧ Below wx.heap.size wx w') := fun wx hx => by
      have := spec_rootOf g 0 l.length cp l wx (hO4.sl.below hx) hcp.1 hlim
      rw [HRI.out] at this; exact this
    have HPT : Hid (∀ wx, Below w4.heap.size w4 wx → Calls Tryd.prog 13 #[.slice (some ⟨gm, 0, none⟩) l.length cm, .int .i64 (i : Int)] wx fun e w' =>
        ∃ g' n' cap', e = .returned (.slice (some ⟨g', 0, none⟩) n' cap') ∧ OwnS w' wx.heap.size g' n' cap' (path m i) ∧ Below wx.heap.size wx w') := fun wx hx => by
      have := impl_pathOf gm 0 l.length cm m (i : Int) wx (hOm4.sl.below hx) hcm.1 hmlim (WalkArith.wf_i64 (by omega)) (hkx.below hx)
      rw [HPI.out] at this; exact this
    have HPA : Hid (∀ wx g9 c9 gb, Below w4.heap.size w4 wx → OwnS wx gb g9 (path m i).length c9 (path m i) → Calls Tryd.prog 12 #[.slice (some ⟨g, 0, none⟩) l.length cp, .agg #[.string q.1, .string q.2], .int .i64 (i : Int), .int .i64 (l.length : Int), .slice (some ⟨g9, 0, none⟩) (path m i).length c9] wx (PAPost wx (clash.partAt l q (i : Int) (l.length : Int) (path m i)))) :=
      fun wx g9 c9 gb hx hS => impl_partAt g 0 cp l q (i : Int) (l.length : Int) g9 0 c9 (path m i) wx (hO4.sl.below hx) hcp.1 (fun p hp => Nat.le_trans (hlim p hp).1 (by omega)) hqlim hS.sl hPlim hS.cases.1 (hkx.below hx)
    have h0l : 0 < l.length := by omega
    have HIN : Hid (∀ wx, Below w4.heap.size w4 wx → Calls Tryd.prog 15 #[.slice (some ⟨g, 0, none⟩) 1 cp] wx fun e w' => e = .returned (.string (leafOf (l[0]'h0l))) ∧ Below wx.heap.size wx w') := fun wx hx => by
      have h1 : (l.take 1).length = 1 := by simp; omega
      have := impl_innerOf g 0 1 cp (l.take 1) wx (by have := slp_take (hO4.sl.below hx) 1 (by omega); rw [h1] at this; exact this) (by omega) (fun p hp => hlim p (List.mem_of_mem_take hp)) (hkx.below hx)
      have h2 : innerI (l.take 1) = leafOf (l[0]'h0l) := by
        unfold innerI
        rw [if_pos (by omega)]
        cases l with
        | nil => simp at h0l
        | cons p r => simp [inner_one]
      rw [h2] at this; exact this
    have HLF : Hid (∀ wx, Below w4.heap.size w4 wx → Calls Tryd.prog 16 #[.agg #[.string (l[0]'h0l).1, .string (l[0]'h0l).2]] wx fun e w' => e = .returned (.string (leafOf (l[0]'h0l))) ∧ Below wx.heap.size wx w') := fun wx hx => impl_leafOf _ wx (hlim _ (List.getElem_mem h0l)) (hkx.below hx)
    have z1 := hO4.key 0 h0l
    have z2 := hO4.val 0 h0l
    have hgl4 := hO4.lt.2
    have hgm4 := hOm4.lt.2
    simp only [Nat.zero_mul, Nat.zero_add] at z1 z2
    have HC : Hid (∀ (x y : ByteArray) wx, Below w4.heap.size w4 wx → x.size ≤ 137438953600 → y.size ≤ 137438953600 → Calls Tryd.prog 14 #[.string x, .string y, .int .i64 32] wx fun e w' => e = .returned (.bool (isClash x y 32)) ∧ Below wx.heap.size wx w') := fun x y wx hx h1 h2 => impl_isClash x y 32 wx (by omega) (by omega) (hkx.below hx)
    generalize hlf : leafOf (l[0]'h0l) = lf at *
    generalize l[0]'h0l = l0 at *
    clear hlf
    generalize rootOf l = ra at *
    generalize rootOf m = rm at *
    generalize path m i = Pt at *
    generalize clash.partAt l q (i : Int) (l.length : Int) Pt = res at *
    obtain ⟨x, y, c⟩ := res
    simp only [] at hturn hPAis hsm
    have hl9 : (l.length : Int) ≤ 9 := by omega
    have HTURN := Hid.mk' hturn
    have HPAI := Hid.mk' hPAis
    clear hturn hPAis
    go_wp2_with fail
    clear hz hw4 c1 c2 hzs htl hzm hown hgrow hgr3 hO1 hO1a hO2 hO3 hB3 hB3a hOm hOm4 hO4 hkx hK w0 hm HB hlim hmlim hqlim HRI HRM HPI hps hPlim hba ht hgd
    refine (HR1.out _ (Below.refl _ _)).mono ?_
    rintro e w5 ⟨rfl, hb5⟩
    go_wp2_with fail
    refine (HR2.out _ hb5).mono ?_
    rintro e w6 ⟨rfl, hb6'⟩
    have hb6 := hb5.trans (hb6'.mono hb5.size)
    clear hb5 hb6'
    go_wp2_with fail
    refine (HR3.out _ hb6).mono ?_
    rintro e w7 ⟨rfl, hb7'⟩
    have hb7 := hb6.trans (hb7'.mono hb6.size)
    have hrr : (ra.toList == ra.toList) = true := beq_self_eq_true _
    clear hb6 hb7' HR1 HR2 HR3
    have hdr : Below w4.heap.size w4 w7.drew := hb7.drew
    have m0 := keepB2 hdr (And.intro k1 k2)
    go_wp2_with fail
    go_region_held3 (fun w' => (w'.cell? ⟨gm, i * 2, none⟩ = some (.string q.1) ∧ w'.cell? ⟨gm, i * 2 + 1, none⟩ = some (.string q.2)) ∧ Below w4.heap.size w4 w') (first | exact ⟨m0, hdr⟩ | exact ⟨m9, hb9⟩ | exact ⟨m8, hb8⟩) (first | (go_at_call 13; refine (HPT.out _ hdr).mono ?_; rintro e w8 ⟨g8, n8, c8, rfl, hO8, hb8'⟩; have hb8 := hdr.trans (hb8'.mono hdr.size); have m8 := keepB2 hb8' m0; have hn8 := hO8.1; subst hn8) | (go_at_call 12; refine (HPA.out _ g8 c8 _ hb8 hO8).mono ?_; rintro e w9 ⟨rfl, hb9'⟩; have hb9 := hb8.trans (hb9'.mono hb8.size); have m9 := keepB2 hb9' m8))
    all_goals
      have hBz := hB4.trans (hb9.mono hB4.size)
      have hinh := last.On.inh w9.heap.size w9
      have hxx : ∀ x : last.On w9.heap.size w9, Below w4.heap.size w4 x.w := fun x => hb9.trans (x.2.mono hb9.size)
      have o1 := last.On.cell (keepC hb9 z1) (Nat.lt_of_lt_of_le hgl4 hb9.size)
      have o2 := last.On.cell (keepC hb9 z2) (Nat.lt_of_lt_of_le hgl4 hb9.size)
      have hc1 : ∀ x9 : last.On w9.heap.size w9, Calls Tryd.prog 15 #[.slice (some ⟨g, 0, none⟩) 1 cp] x9.w fun e w' => e = .returned (.string lf) ∧ ∃ y9 : last.On w9.heap.size w9, w' = y9.w := fun x9 => last.Calls.on x9 (Nat.le_refl _) (HIN.out _ (hxx x9))
      have hc2 : ∀ x9 : last.On w9.heap.size w9, Calls Tryd.prog 16 #[.agg #[.string l0.1, .string l0.2]] x9.w fun e w' => e = .returned (.string lf) ∧ ∃ y9 : last.On w9.heap.size w9, w' = y9.w := fun x9 => last.Calls.on x9 (Nat.le_refl _) (HLF.out _ (hxx x9))
      have hlff : (lf.toList == lf.toList) = true := beq_self_eq_true _
      have hcp1 : (1 : Int) ≤ (cp : Int) := by omega
      clear hO8 hb8 hb8' hb9' m8 m9 m0 HPT HPA
      have hturn := HTURN.out
      have hPAis := HPAI.out
      clear HTURN HPAI
      by_cases he : ra = rm
      · rw [decide_eq_true he] at hturn
        subst hturn
        have hcl := hPAis rfl
        subst he
        have hc3 : ∀ x9 : last.On w9.heap.size w9, Calls Tryd.prog 14 #[.string x, .string y, .int .i64 32] x9.w fun e w' => e = .returned (.bool true) ∧ ∃ y9 : last.On w9.heap.size w9, w' = y9.w := fun x9 => last.Calls.on x9 (Nat.le_refl _) (by have := HC.out x y _ (hxx x9) hsm.1 hsm.2; rw [hcl] at this; exact this)
        clear HC HIN HLF hxx hPAis hcl
        go_wp2_with fail
        refine last.wp_region_on w9.heap.size (by kernel_rfl) (by kernel_rfl) ?_
        repeat (go_big_quiet_step ((first | (go_at_call 14; with_reducible exact hc3 _) | (go_at_call 15; with_reducible exact hc1 _) | (go_at_call 16; with_reducible exact hc2 _))))
        refine wpQuiet_nil ?_
        intro w10 hw10
        obtain ⟨x10, hw10⟩ := hw10
        subst hw10
        have hB10 := hBz.trans (x10.2.mono hBz.size)
        go_wp2_with fail
        go_ret
        exact ⟨rfl, hB10⟩
      · rw [decide_eq_false he] at hturn
        subst hturn
        have hab : (ra.toList == rm.toList) = false := beq_eq_false_iff_ne.2 (fun e => he (bytes_ext (by rw [← ByteArray.toList_eq, ← ByteArray.toList_eq]; exact e)))
        clear HC HIN HLF hxx hPAis he
        go_wp2_with fail
        refine last.wp_region_on w9.heap.size (by kernel_rfl) (by kernel_rfl) ?_
        repeat (go_big_quiet_step ((first | (go_at_call 15; with_reducible exact hc1 _) | (go_at_call 16; with_reducible exact hc2 _))))
        refine wpQuiet_nil ?_
        intro w10 hw10
        obtain ⟨x10, hw10⟩ := hw10
        subst hw10
        have hB10 := hBz.trans (x10.2.mono hBz.size)
        go_wp2_with fail
        go_ret
        exact ⟨rfl, hB10⟩

set_option maxRecDepth 100000 in
theorem lifted (os : Os) (started : os.Started) (H : Type) (enc : TypeId × Value → H) :
    ReturnsInHanded {} Tryd.checked os 3 .any (fun w args => (Rows.fnRootsSpec.pre enc Tryd.prog Tryd.f3 [] false w args ∧ laidMetH Tryd.prog door.laidD w) ∧ sizedMet enc Tryd.prog Tryd.f3 (OpenSpec.ofChange Rows.fnRootsSpec) false w args)
      (Rows.fnRootsSpec.post enc Tryd.prog Tryd.f3 false true false false) := by
  refine returnsInHanded_of_change_and (C := Tryd.checked) (X := fun w _ => laidMetH Tryd.prog door.laidD w) (fun _ _ _ hh h => h.of_heap hh) door.own started (by kernel_rfl) Tryd.func3
    (ChangeSpec.witness_shaped (enc := enc) (C := Tryd.checked) (os := os) (X := fun w _ => laidMetH Tryd.prog door.laidD w) false (World.laidAll Tryd.prog os door.laidD) #[.slice none 0 0] 70 (World.laidAll_os _ _ _) (World.shaped_of_ZipB (by kernel_rfl) (by kernel_rfl)) (by kernel_rfl) (by kernel_rfl) (by kernel_rfl)
      (by rw [MakeChecks.laidMetH_plain _ _ _ (by kernel_rfl)]; exact laidMet_laidAll _ (by kernel_rfl) (by kernel_rfl))) ?_
  intro W base args ds gs before hval0 hW _ _ hL _
  have hval : ∀ (j : Nat) t v, Tryd.f3.params[j]? = some t → args[j]? = some v → Value.okWide Tryd.prog W .any base t v := hval0
  have hW' := hW
  obtain ⟨p, q, hA0, hV, rfl, hfz, hnd⟩ := hW
  have hA : DataW.TrodAll enc Tryd.prog W 0 (fun _ => true) true Tryd.f3.params.toList args.toList ds p := hA0
  rw [Tryd.params3] at hA hval
  obtain ⟨v0, vs0, d0, ds0, p0, q0, hargs, rfl, rfl, h0, r0⟩ := trodAll_cons hA
  obtain ⟨rfl, rfl, rfl⟩ := trodAll_nil r0
  obtain rfl : args = #[v0] := by cases args; simp_all
  obtain ⟨gv, tv, csv, fv, dv, pv, rfl, _, _, _, _, _⟩ := trodVars_one (show DataW.TrodVars enc Tryd.prog W (fun _ => true) ["loop.example/g00244/impl.roundWords"] gs q from hV)
  obtain ⟨a0, len0, cap0, rfl⟩ := okWide_slice Tryd.underlying22 (hval 0 22 v0 rfl rfl)
  have k0 := h0
  have lt0 : ∀ x ∈ p0, x.block < W.heap.size := by obtain ⟨m, hm⟩ := k0; exact DataW.trod_lt m _ _ _ hm
  obtain ⟨b0, w0⟩ : ∃ bs, Sl W a0 len0 bs := by
    obtain ⟨fuel, hf⟩ := h0
    rcases open_ints Tryd.underlying22 Tryd.underlying5 (by kernel_rfl) hf with ⟨hcs, _⟩ | ⟨x, l, c, zs, hcs, _, hl, hm, hz, _, hcell, hwz⟩
    · simp [Value.cells] at hcs
      obtain ⟨rfl, rfl, rfl⟩ := hcs
      exact ⟨[], sl_nil _ _⟩
    · simp [Value.cells] at hcs
      obtain ⟨rfl, rfl, rfl⟩ := hcs
      exact ⟨_, sl_of_ints hl hm (by simpa using hz) hcell hwz⟩
  clear hA0 hval0
  refine (walk a0 len0 cap0 b0 W w0 (door.words_of_laid hL)).mono fun e W' ⟨he, bel⟩ => ?_
  subst he
  exact ⟨_, rfl, _, _, _, [], _, _, hW', trodAll_mk1 (shut_bool Tryd.underlying4 _), (trodAll_cons_mk (Below.trod door.laidOut (by kernel_rfl) (of_decide_eq_true (by kernel_rfl)) k0 bel lt0) trodAll_mk0), bel.trodVars door.laidOut (by kernel_rfl) hV, bel.frame _, fun h => by cases h⟩

theorem over : Rows.fnRootsRow.holds Tryd.pinned (OpenSpec.ofChange Rows.fnRootsSpec) :=
  OpenClaim.holds_of_wide 3 Tryd.f3 rfl rfl rfl rfl rfl rfl rfl ⟨rfl, rfl, rfl, rfl, rfl⟩ rfl rfl rfl rfl rfl (by kernel_rfl) Tryd.func3 (by kernel_rfl)
    (of_decide_eq_true (by kernel_rfl)) (by unfold Func.isWrapper; first | (rw [if_pos (by decide +kernel)]; kernel_rfl) | (rw [if_neg (by decide +kernel)]; exact ⟨rfl, rfl⟩))
    (fun os started H enc _ => lifted os started H enc)

theorem proved : Rows.FnRootsCardSaid :=
  Claim7.holds_tied_plain_at .later [] [.data] true (true, "5cdd0034906363510551842fd72a75f8565cb97764f571c82cbad23a3f3328e0") false
    over (fun _ h => by cases h) (by kernel_rfl) (fun _ h => by cases h) fnRoots_row_tie rfl ⟨rfl, rfl⟩ (by kernel_rfl) rfl
    (fun f fn hf hfn => by
      obtain rfl : f = 3 := Option.some.inj ((show Tryd.prog.funcNamed "loop.example/g00244/laws.FnRoots" = some 3 by kernel_rfl).symm.trans hf) |>.symm
      obtain rfl : fn = Tryd.f3 := (Option.some.inj (Tryd.func3.symm.trans hfn)).symm
      exact ⟨by kernel_rfl, fun j t ht => by
        rw [Tryd.params3] at ht
        have hm : t ∈ [22] := by simpa using Array.mem_of_getElem? ht
        have hall : ([22].all fun u => !Tryd.prog.wantsStandIn u) = true := by kernel_rfl
        exact (show Tryd.prog.wantsStandIn t = false by simpa using List.all_eq_true.1 hall t hm)⟩)
    (by kernel_rfl)
end Go.Proofs.YtdebbgodhpcijaaDoor.fnRoots
