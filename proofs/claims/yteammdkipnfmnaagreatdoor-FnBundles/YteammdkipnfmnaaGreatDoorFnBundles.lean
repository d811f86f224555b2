/- The statement FnBundlesCardSaid: at every slice of bytes FnBundles answers true, and the slice reads afterwards as before, where the table of the rounds' words is as the program's text lays it (the card ties it). No condition besides the row's own. -/
import Derived.Test.YteammdkipnfmnaaGreatDoorRows
import Derived.Test.YteammdkipnfmnaaGreatDoorCards
import Derived.Test.YteammdkipnfmnaaGreatDoorTie
import Derived.Test.YteammdkipnfmnaaGreatDoorShav
import Derived.Test.YteammdkipnfmnaaGreatDoorShaw
import Derived.Test.YteammdkipnfmnaaGreatDoorShbe
import Derived.Test.YteammdkipnfmnaaGreatDoorShax
import Derived.Test.YteammdkipnfmnaaGreatDoorShag
import Derived.Test.YteammdkipnfmnaaGreatDoorShbb
import Derived.ProofKit
import Derived.OpenShut
import Derived.ShutString
import Derived.ChangeOld
import Derived.Below
/-! ### a slice of bytes that is laid -/
namespace Go.Proofs.YteammdkipnfmnaaGreatDoor.base
open Go.RowKit
theorem bounds8 {n : Int} (h : (Lit.int .u8 n).wf = true) : 0 ≤ n ∧ n ≤ 255 := by
  simpa [Lit.wf, IntKind.min, IntKind.max, IntKind.signed, IntKind.bits] using h
theorem sl_of_ints {w : World} {x : Addr} {len cap : Nat} {zs : List Int} (hl : len ≤ cap) (hm : cap ≤ maxLen) (hz : zs.length = cap)
    (hcell : ∀ i, i < zs.length → w.cell? (x.add i) = some (.int .u8 (zs.getD i 0))) (hwz : ∀ n ∈ zs, (Lit.int .u8 n).wf = true) :
    Sl w (some x) len ((zs.take len).map fun n => UInt8.ofNat n.toNat) := by
  refine ⟨by simp; omega, by omega, fun h0 => ?_⟩
  obtain ⟨b, off, spot⟩ := x
  have hspot : spot = none := by simpa [Addr.add] using World.cell?_spot (hcell 0 (by omega))
  subst hspot
  refine ⟨b, off, rfl, fun i h => ?_⟩
  have hi : i < zs.length := by simp at h; omega
  have hc := hcell i hi
  rw [Addr.add_lit] at hc
  rw [hc]
  have hb := bounds8 (hwz zs[i] (List.getElem_mem hi))
  simp only [List.getElem_map, List.getElem_take, List.getD, List.getElem?_eq_getElem hi, Option.getD_some, Option.some.injEq]
  refine val_int ?_
  simp
  omega
end Go.Proofs.YteammdkipnfmnaaGreatDoor.base
namespace Go.Proofs.YteammdkipnfmnaaGreatDoor.fnBundles
open Go.ChangeShapes Go.WideShapes Go.ChangeAt Go.RowKit
open Go.ChangeMaps (open_string shut_string)
set_option linter.unusedVariables false
set_option linter.unusedSimpArgs false
open Go.Proofs.YteammdkipnfmnaaGreatDoor.base Go.Proofs.YteammdkipnfmnaaGreatDoor.pairs Go.Proofs.YteammdkipnfmnaaGreatDoor.tree Go.Proofs.YteammdkipnfmnaaGreatDoor.range Go.Proofs.YteammdkipnfmnaaGreatDoor.lay Go.Proofs.YteammdkipnfmnaaGreatDoor.seals Go.Proofs.YteammdkipnfmnaaGreatDoor.bun

theorem union_good {lo hi : ByteArray} {b : List Pr} : ∀ {a : List Pr}, Rise a → (∀ p ∈ a, inB lo hi p.1 = true) → (∀ p ∈ b, inB lo hi p.1 = true) → Rise (unionOf a b) ∧ ∀ p ∈ unionOf a b, inB lo hi p.1 = true := by
  induction b with
  | nil => intro a h1 h2 _; exact ⟨h1, h2⟩
  | cons q b ih =>
    intro a h1 h2 h3
    rw [unionOf_cons]
    refine ih (rise_put h1) (fun p hp => ?_) (fun p hp => h3 p (List.mem_cons_of_mem _ hp))
    rcases putKey_mem hp with e | e
    · exact h2 p e
    · rw [e]; exact h3 q List.mem_cons_self
theorem check_in {root lo hi : ByteArray} {f : Prf} {l : List Pr} (h : check root lo hi f = some l) : ∀ p ∈ l, inB lo hi p.1 = true := by
  unfold check at h
  split at h
  · split at h
    · cases h; intro p hp; cases hp
    · cases h
  · split at h
    · cases h
    · split at h
      · cases h
      · split at h
        · cases h
        · cases h
          intro p hp
          exact (List.mem_filter.1 hp).2
theorem part_in {n : Nat} {lo hi : ByteArray} {roots : List ByteArray} {proofs : List Pf} {k : Nat} {l : List Pr} (h : partB n lo hi roots proofs k = some l) : ∀ p ∈ l, inB lo hi p.1 = true := by
  unfold partB at h
  split at h
  · split at h
    · rename_i _ hc
      split at h
      · cases h; exact check_in hc
      · cases h
    · cases h
  · cases h
theorem sum_good {n : Nat} {lo hi : ByteArray} {roots : List ByteArray} {proofs : List Pf} : ∀ k l, sumB n lo hi roots proofs k = some l → Rise l ∧ ∀ p ∈ l, inB lo hi p.1 = true := by
  intro k
  induction k with
  | zero => intro l h; cases h; exact ⟨List.Pairwise.nil, fun p hp => absurd hp List.not_mem_nil⟩
  | succ k ih =>
    intro l h
    unfold sumB at h
    split at h
    · rename_i o m ho hm
      cases h
      have := ih o ho
      exact union_good this.1 this.2 (part_in hm)
    · cases h
theorem check_good {su lo hi : ByteArray} {x : Bun} {l : List Pr} (h : checkB su lo hi x = some l) : (Rise l ∧ ∀ p ∈ l, inB lo hi p.1 = true) ∧ x.2.2.2.length = x.2.2.1.length ∧ superOf x.1 x.2.1 x.2.2.1 = su := by
  unfold checkB at h
  split at h
  · rename_i hc
    exact ⟨sum_good _ _ h, hc.2.2, hc.1⟩
  · cases h
theorem check_long {su lo hi : ByteArray} {x : Bun} (h : su.size = 33) : checkB su lo hi x = none := by
  unfold checkB
  rw [if_neg]
  rintro ⟨e, _⟩
  have : (superOf x.1 x.2.1 x.2.2.1).size = 32 := dg_size _
  rw [e] at this
  omega
theorem sum_short {l : List ByteArray} (h : ∀ r ∈ l, sm64 r) : puttexts.sum l ≤ 64 * l.length := by
  induction l with
  | nil => exact Nat.le_refl _
  | cons r l ih =>
    have h1 := ih (fun x hx => h x (List.mem_cons_of_mem _ hx))
    have h2 := h r List.mem_cons_self
    unfold sm64 at h2
    simp only [puttexts.sum, List.map_cons, List.sum_cons, List.length_cons] at *
    omega
theorem in_parts {lo hi k : ByteArray} (h : inB lo hi k = true) : Op.bytesLess k.toList lo.toList = false ∧ (hi.size ≠ 0 → Op.bytesLess k.toList hi.toList = true) := by
  unfold inB at h
  rw [Bool.and_eq_true, Bool.or_eq_true] at h
  refine ⟨by have := h.1; simpa [ltB] using this, fun hn => ?_⟩
  rcases h.2 with e | e
  · exact absurd (of_decide_eq_true e) hn
  · exact e
theorem empty_not {s : ByteArray} (h : s.size ≠ 0) : (s.toList == []) = false := by
  rw [beq_eq_false_iff_ne]
  intro e
  rw [ByteArray.toList_eq] at e
  exact h (by have := congrArg List.length e; simpa using this)
theorem more_size (s : ByteArray) : (s ++ (⟨#[120]⟩ : ByteArray)).size = s.size + 1 := by simp [ByteArray.size_append]; rfl
set_option maxRecDepth 100000 in
set_option maxHeartbeats 8000000 in
theorem walk (a0 : Option Addr) (len0 cap0 : Nat) (b0 : List UInt8) (w : World) (w0 : Sl w a0 len0 b0) (hK : sha.KW w) :
    Calls Tryz.prog 3 #[.slice a0 len0 cap0] w fun e w' => e = .returned (.bool true) ∧ Below w.heap.size w w' := by
  have hm := w0.2.1
  have HBG := Hid.mk' (big_ a0 len0 cap0 w hm)
  by_cases hbig : 1048576 < (len0 : Int)
  · rw [decide_eq_true hbig] at HBG
    clear hbig
    go_enter Tryz.func3, Tryz.ntmps3
    go_wp2_with fail
    refine HBG.out.mono ?_
    rintro e w1 ⟨rfl, rfl⟩
    go_wp2_with fail
    go_ret
    exact ⟨rfl, Below.refl _ _⟩
  rw [decide_eq_false hbig] at HBG
  have HDR := Hid.mk' (drawCheckBundle a0 len0 cap0 b0 w w0 (by omega))
  clear hm w0 hbig
  go_enter Tryz.func3, Tryz.ntmps3
  go_wp2_with fail
  refine HBG.out.mono ?_
  rintro e w1 ⟨rfl, rfl⟩
  clear HBG
  go_wp2_with fail
  refine HDR.out.mono ?_
  rintro e w2 ⟨su, lo, hi, no, pv, ra, rn, rc, pa, pn, pc, rfl, hsu, hlo, hhi, hno, hpv, ⟨rs, hR, hrs⟩, hrn, hrc, hfj, hpn, hpc, hb2⟩
  clear HDR
  obtain ⟨L, hP, hL⟩ := fj_pj hfj (by unfold maxLen; omega)
  have hrl : rs.length = rn := hR.1
  have hpl : L.length = pn := hP.1
  have hsm := sum_short hrs
  have hnw : (Lit.int .i64 no).wf = true := WalkArith.wf_i64 (by omega)
  have hpv' : pv.size ≤ 1048576 := by unfold sm64 at hpv; omega
  obtain ⟨W, hW⟩ : ∃ V, w2.alloc (.cells #[.int .i64 no, .string pv, .slice ra rn rc, .slice pa pn pc] 27) = V := ⟨_, rfl⟩
  have hbW : Below w2.heap.size w2 W := by rw [← hW]; exact below_make
  have hX : BoxIn w2.heap.size 27 [] [.int .i64 no, .string pv, .slice ra rn rc, .slice pa pn pc] [] W := by rw [← hW]; exact boxIn_new w2 _ _
  have hBW := hb2.trans (hbW.mono hb2.size)
  have HI := Hid.mk' (fun (s : ByteArray) (hs : s.size ≤ 1048576) wx (hx : Below W.heap.size W wx) => impl_checkBundle s lo hi ra rn rc pa pn pc (no, pv, rs, L) wx hnw hs (by omega) (by omega) hpv' ((hR.below hbW).below hx) (by show rs.length + puttexts.sum rs ≤ 1048576; omega) ((hP.below hbW).below hx) (fun f hf => by have := hL f hf; omega) hrc hpc ((hK.below hBW).below hx))
  have HIS := Hid.mk' (fun wx (hx : Below W.heap.size W wx) => HI.out su (by omega) wx hx)
  have HS := Hid.mk' (fun wx (hx : Below W.heap.size W wx) => spec_checkBundle su lo hi ra rn rc pa pn pc (no, pv, rs, L) wx hnw hpv' ((hR.below hbW).below hx) (by show rs.length + puttexts.sum rs ≤ 1048576; omega) ((hP.below hbW).below hx) (fun f hf => by have := hL f hf; omega))
  have HU := Hid.mk' (fun wx (hx : Below W.heap.size W wx) => impl_superOf no pv ra rn rc rs wx ((hR.below hbW).below hx) hnw hpv' (by show rs.length + puttexts.sum rs ≤ 1048576; omega) ((hK.below hBW).below hx))
  have HG := Hid.mk' (fun l (h : checkB su lo hi (no, pv, rs, L) = some l) => check_good h)
  have HL := Hid.mk' (fun l (h : checkB su lo hi (no, pv, rs, L) = some l) => bun.sum_len (fun f hf => by have := hL f hf; omega) l h)
  have HLONG := Hid.mk' (check_long (lo := lo) (hi := hi) (x := (no, pv, rs, L)) (show (su ++ (⟨#[120]⟩ : ByteArray)).size = 33 by rw [more_size]; omega))
  have hs33 : (su ++ (⟨#[120]⟩ : ByteArray)).size ≤ 1048576 := by rw [more_size]; omega
  have HB2 := Hid.mk' hBW
  have HW := Hid.mk' hW
  have HX := Hid.mk' hX
  obtain ⟨x0, x1, x2, x3⟩ := box4 hX
  clear hW hX hbW hBW hb2 hfj hP hL hR hrs hsm hK
  generalize checkB su lo hi (no, pv, rs, L) = r at *
  go_wp2_with fail
  rw [HW.out]
  clear HW
  refine (HIS.out W (Below.refl _ _)).mono ?_
  rintro e w3 ⟨hb3, g, n, c, rfl, hO3⟩
  obtain ⟨y0, y1, y2, y3⟩ := box4 (HX.out.below hb3)
  clear x0 x1 x2 x3
  have HO3 := Hid.mk' hO3
  have HB3 := Hid.mk' hb3
  clear hO3 hb3
  go_wp2_with fail
  refine (HS.out w3 HB3.out).mono ?_
  rintro e w4 ⟨hb4, g4, n4, c4, rfl, hO4⟩
  have HB4 := Hid.mk' (HB3.out.trans (hb4.mono HB3.out.size))
  have HO4 := Hid.mk' (HO3.out.below hb4)
  obtain ⟨z0, z1, z2, z3⟩ := box4 (HX.out.below HB4.out)
  clear hO4 hb4 y0 y1 y2 y3 HO3 HB3 HS HIS
  go_wp2_with fail
  refine (HI.out _ hs33 w4 HB4.out).mono ?_
  rintro e w5 ⟨hb5, g5, n5, c5, rfl, hO5⟩
  rw [HLONG.out]
  have HB5 := Hid.mk' (HB4.out.trans (hb5.mono HB4.out.size))
  have HO5 := Hid.mk' (HO4.out.below hb5)
  clear hO5 hb5 z0 z1 z2 z3 HO4 HB4 HI HLONG
  cases r with
  | none =>
    obtain rfl : (0 : Nat) = n := HO5.out.1
    go_wp2_with fail
    go_ret
    exact ⟨rfl, HB2.out.trans (HB5.out.mono HB2.out.size)⟩
  | some l =>
    have hg := HG.out l rfl
    have HO6 : Hid (OwnP w5 W.heap.size g n c l) := HO5.out
    obtain rfl : l.length = n := HO6.out.1
    have hll := HL.out l rfl
    have HGD := Hid.mk' hg
    clear hg HG HL HO5
    go_wp2_with fail
    go_loopw [13] (fun i wr => ∃ k : Nat, k ≤ l.length ∧ i = .int .i64 (k : Int) ∧ Below w5.heap.size w5 wr) (fun i _ => l.length - (intOf i).toNat)
    case atStart => exact ⟨0, Nat.zero_le _, rfl, Below.refl _ _⟩
    case round =>
      obtain ⟨k, hk, rfl, hb⟩ := hrel
      by_cases hlt : k < l.length
      · have hki : (k : Int) < (l.length : Int) := by omega
        have hOr := HO6.out.below hb
        obtain ⟨c0, c1⟩ := hOr.sl.cells k hlt
        simp only [Nat.zero_add] at c0 c1
        obtain ⟨e1, e2⟩ := in_parts (HGD.out.1.2 l[k] (List.getElem_mem hlt))
        have HB := Hid.mk' hb
        have hinh := last.On.inh wr.heap.size wr
        have p0 := last.On.cell (B := wr.heap.size) c0 (World.block_lt_of_cell? _ _ c0)
        by_cases hk0 : 0 < k
        · have hkp : (0 : Int) < (k : Int) := by omega
          obtain ⟨d0, d1⟩ := hOr.sl.cells (k - 1) (by omega)
          simp only [Nat.zero_add] at d0 d1
          have hri : Op.bytesLess l[k - 1].1.toList l[k].1.toList = true := List.pairwise_iff_getElem.1 HGD.out.1.1 (k - 1) k (by omega) hlt (by omega)
          have p1 := last.On.cell (B := wr.heap.size) d0 (World.block_lt_of_cell? _ _ d0)
          have hkm : (k : Int) - 1 = ((k - 1 : Nat) : Int) := by omega
          clear hOr hb c1 d1
          generalize l[k - 1] = q at *
          generalize l[k] = p at *
          by_cases hh : hi.size = 0
          · obtain rfl : hi = ⟨#[]⟩ := ByteArray.ext (Array.eq_empty_of_size_eq_zero hh)
            go_wp2_with fail
            refine last.wp_region_on wr.heap.size (by kernel_rfl) (by kernel_rfl) ?_
            repeat (go_big_quiet_step (fail))
            refine wpQuiet_nil ?_
            intro wq hwq
            obtain ⟨xq, hwq⟩ := hwq
            subst hwq
            have hbq : Below wr.heap.size wr xq.w := xq.2
            go_wp2_with fail
            go_roundw
            case rel => exact ⟨k + 1, by omega, by go_num, HB.out.trans (hbq.mono HB.out.size)⟩
            case measure => simp [intOf]; omega
          · have e3 := e2 hh
            have h4 : hi ≠ (⟨#[]⟩ : ByteArray) := fun e => hh (by rw [e]; rfl)
            have h5 := seals.str_ne h4
            have h6 : (hi.toList == []) = false := empty_not hh
            go_wp2_with fail
            refine last.wp_region_on wr.heap.size (by kernel_rfl) (by kernel_rfl) ?_
            repeat (go_big_quiet_step (fail))
            refine wpQuiet_nil ?_
            intro wq hwq
            obtain ⟨xq, hwq⟩ := hwq
            subst hwq
            have hbq : Below wr.heap.size wr xq.w := xq.2
            go_wp2_with fail
            go_roundw
            case rel => exact ⟨k + 1, by omega, by go_num, HB.out.trans (hbq.mono HB.out.size)⟩
            case measure => simp [intOf]; omega
        · obtain rfl : k = 0 := by omega
          clear hOr hb c1
          generalize l[0] = p at *
          by_cases hh : hi.size = 0
          · obtain rfl : hi = ⟨#[]⟩ := ByteArray.ext (Array.eq_empty_of_size_eq_zero hh)
            go_wp2_with fail
            refine last.wp_region_on wr.heap.size (by kernel_rfl) (by kernel_rfl) ?_
            repeat (go_big_quiet_step (fail))
            refine wpQuiet_nil ?_
            intro wq hwq
            obtain ⟨xq, hwq⟩ := hwq
            subst hwq
            have hbq : Below wr.heap.size wr xq.w := xq.2
            go_wp2_with fail
            go_roundw
            case rel => exact ⟨1, by omega, by go_num, HB.out.trans (hbq.mono HB.out.size)⟩
            case measure => simp [intOf]; omega
          · have e3 := e2 hh
            have h4 : hi ≠ (⟨#[]⟩ : ByteArray) := fun e => hh (by rw [e]; rfl)
            have h5 := seals.str_ne h4
            have h6 : (hi.toList == []) = false := empty_not hh
            go_wp2_with fail
            refine last.wp_region_on wr.heap.size (by kernel_rfl) (by kernel_rfl) ?_
            repeat (go_big_quiet_step (fail))
            refine wpQuiet_nil ?_
            intro wq hwq
            obtain ⟨xq, hwq⟩ := hwq
            subst hwq
            have hbq : Below wr.heap.size wr xq.w := xq.2
            go_wp2_with fail
            go_roundw
            case rel => exact ⟨1, by omega, by go_num, HB.out.trans (hbq.mono HB.out.size)⟩
            case measure => simp [intOf]; omega
      · have hki : ¬ (k : Int) < (l.length : Int) := by omega
        have hBr := HB5.out.trans (hb.mono HB5.out.size)
        obtain ⟨y0, y1, y2, y3⟩ := box4 (HX.out.below hBr)
        have hlen : pn = rn := by
          have h1 : L.length = rs.length := HGD.out.2.1
          omega
        have hsu2 : superOf no pv rs = su := HGD.out.2.2
        have HU2 := Hid.mk' (HU.out wr hBr)
        rw [hsu2] at HU2
        have HBR := Hid.mk' hBr
        subst hlen
        clear hBr hb
        go_wp2_with fail
        refine HU2.out.mono ?_
        rintro e w6 ⟨rfl, hb6⟩
        have hq := str_same su
        go_wp2_with fail
        go_ret
        exact ⟨rfl, HB2.out.trans ((HBR.out.trans (hb6.mono HBR.out.size)).mono HB2.out.size)⟩
set_option maxRecDepth 100000 in
theorem lifted (os : Os) (started : os.Started) (H : Type) (enc : TypeId × Value → H) :
    ReturnsInHanded {} Tryz.checked os 3 .any (fun w args => (Rows.fnBundlesSpec.pre enc Tryz.prog Tryz.f3 [] false w args ∧ laidMetH Tryz.prog door.laidD w) ∧ sizedMet enc Tryz.prog Tryz.f3 (OpenSpec.ofChange Rows.fnBundlesSpec) false w args)
      (Rows.fnBundlesSpec.post enc Tryz.prog Tryz.f3 false true false false) := by
  refine returnsInHanded_of_change_and (C := Tryz.checked) (X := fun w _ => laidMetH Tryz.prog door.laidD w) (fun _ _ _ hh h => h.of_heap hh) door.own started (by kernel_rfl) Tryz.func3
    (ChangeSpec.witness_shaped (enc := enc) (C := Tryz.checked) (os := os) (X := fun w _ => laidMetH Tryz.prog door.laidD w) false (World.laidAll Tryz.prog os door.laidD) #[.slice none 0 0] 70 (World.laidAll_os _ _ _) (World.shaped_of_ZipB (by kernel_rfl) (by kernel_rfl)) (by kernel_rfl) (by kernel_rfl) (by kernel_rfl)
      (by rw [MakeChecks.laidMetH_plain _ _ _ (by kernel_rfl)]; exact laidMet_laidAll _ (by kernel_rfl) (by kernel_rfl))) ?_
  intro W base args ds gs before hval0 hW _ _ hL _
  have hval : ∀ (j : Nat) t v, Tryz.f3.params[j]? = some t → args[j]? = some v → Value.okWide Tryz.prog W .any base t v := hval0
  have hW' := hW
  obtain ⟨p, q, hA0, hV, rfl, hfz, hnd⟩ := hW
  have hA : DataW.TrodAll enc Tryz.prog W 0 (fun _ => true) true Tryz.f3.params.toList args.toList ds p := hA0
  rw [Tryz.params3] at hA hval
  obtain ⟨v0, vs0, d0, ds0, p0, q0, hargs, rfl, rfl, h0, r0⟩ := trodAll_cons hA
  obtain ⟨rfl, rfl, rfl⟩ := trodAll_nil r0
  obtain rfl : args = #[v0] := by cases args; simp_all
  obtain ⟨gv, tv, csv, fv, dv, pv, rfl, _, _, _, _, _⟩ := trodVars_one (show DataW.TrodVars enc Tryz.prog W (fun _ => true) ["loop.example/g00244/impl.roundWords"] gs q from hV)
  obtain ⟨a0, len0, cap0, rfl⟩ := okWide_slice Tryz.underlying22 (hval 0 22 v0 rfl rfl)
  have k0 := h0
  have lt0 : ∀ x ∈ p0, x.block < W.heap.size := by obtain ⟨m, hm⟩ := k0; exact DataW.trod_lt m _ _ _ hm
  obtain ⟨b0, w0⟩ : ∃ bs, Sl W a0 len0 bs := by
    obtain ⟨fuel, hf⟩ := h0
    rcases open_ints Tryz.underlying22 Tryz.underlying5 (by kernel_rfl) hf with ⟨hcs, _⟩ | ⟨x, l, c, zs, hcs, _, hl, hm, hz, _, hcell, hwz⟩
    · simp [Value.cells] at hcs
      obtain ⟨rfl, rfl, rfl⟩ := hcs
      exact ⟨[], sl_nil _ _⟩
    · simp [Value.cells] at hcs
      obtain ⟨rfl, rfl, rfl⟩ := hcs
      exact ⟨_, sl_of_ints hl hm (by simpa using hz) hcell hwz⟩
  clear hA0 hval0
  refine (walk a0 len0 cap0 b0 W w0 (door.words_of_laid hL)).mono fun e W' ⟨he, bel⟩ => ?_
  subst he
  exact ⟨_, rfl, _, _, _, [], _, _, hW', trodAll_mk1 (shut_bool Tryz.underlying4 _), (trodAll_cons_mk (Below.trod door.laidOut (by kernel_rfl) (of_decide_eq_true (by kernel_rfl)) k0 bel lt0) trodAll_mk0), bel.trodVars door.laidOut (by kernel_rfl) hV, bel.frame _, fun h => by cases h⟩

theorem over : Rows.fnBundlesRow.holds Tryz.pinned (OpenSpec.ofChange Rows.fnBundlesSpec) :=
  OpenClaim.holds_of_wide 3 Tryz.f3 rfl rfl rfl rfl rfl rfl rfl ⟨rfl, rfl, rfl, rfl, rfl⟩ rfl rfl rfl rfl rfl (by kernel_rfl) Tryz.func3 (by kernel_rfl)
    (of_decide_eq_true (by kernel_rfl)) (by unfold Func.isWrapper; first | (rw [if_pos (by decide +kernel)]; kernel_rfl) | (rw [if_neg (by decide +kernel)]; exact ⟨rfl, rfl⟩))
    (fun os started H enc _ => lifted os started H enc)

theorem proved : Rows.FnBundlesCardSaid :=
  Claim7.holds_tied_plain_at .later [] [.data] true (true, "ead01a9c71a01a9338fa11ad19b7945b16cccd8302db82d22ada510d4b8e937f") false
    over (fun _ h => by cases h) (by kernel_rfl) (fun _ h => by cases h) fnBundles_row_tie rfl ⟨rfl, rfl⟩ (by kernel_rfl) rfl
    (fun f fn hf hfn => by
      obtain rfl : f = 3 := Option.some.inj ((show Tryz.prog.funcNamed "loop.example/g00244/laws.FnBundles" = some 3 by kernel_rfl).symm.trans hf) |>.symm
      obtain rfl : fn = Tryz.f3 := (Option.some.inj (Tryz.func3.symm.trans hfn)).symm
      exact ⟨by kernel_rfl, fun j t ht => by
        rw [Tryz.params3] at ht
        have hm : t ∈ [22] := by simpa using Array.mem_of_getElem? ht
        have hall : ([22].all fun u => !Tryz.prog.wantsStandIn u) = true := by kernel_rfl
        exact (show Tryz.prog.wantsStandIn t = false by simpa using List.all_eq_true.1 hall t hm)⟩)
    (by kernel_rfl)
end Go.Proofs.YteammdkipnfmnaaGreatDoor.fnBundles
