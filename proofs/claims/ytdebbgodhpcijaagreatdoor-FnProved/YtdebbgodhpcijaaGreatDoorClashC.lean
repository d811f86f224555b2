/- What the laws call a clash in a proof that was taken. -/
import Derived.Test.YtdebbgodhpcijaaGreatDoorClashQ
import Derived.Test.YtdebbgodhpcijaaGreatDoorClashR
import Derived.Test.YtdebbgodhpcijaaGreatDoorRangeT
import Derived.Test.YtdebbgodhpcijaaGreatDoorKitB
namespace Go.Proofs.YtdebbgodhpcijaaGreatDoor.clash
open Go Go.RowKit Go.Proofs.YtdebbgodhpcijaaGreatDoor.base Go.Proofs.YtdebbgodhpcijaaGreatDoor.pairs Go.Proofs.YtdebbgodhpcijaaGreatDoor.tree Go.Proofs.YtdebbgodhpcijaaGreatDoor.range Go.Proofs.YtdebbgodhpcijaaGreatDoor.puttext Go.Proofs.YtdebbgodhpcijaaGreatDoor.putnum
set_option linter.unusedVariables false
set_option linter.unusedSimpArgs false

theorem inner_empty : innerI [] = inner [] := rfl
theorem numBytes_len9 (n : Int) : (numBytes n).length ≤ 9 := by
  have h := topB_length n ⟨#[]⟩
  unfold topB at h
  have h0 : (⟨#[]⟩ : ByteArray).size = 0 := rfl
  rw [h0] at h
  simp at h
  omega
/-- the clash at place k -/
def clashAt (l : List Pr) (f : Prf) (k : Nat) : Bool := match f.items[k]? with | none => false | some x => (partAt l x.1 (f.fr + (k : Int)) f.n x.2).2.2
theorem clashIn_zero (l : List Pr) (f : Prf) (h : f.n = 0) : clashIn l f = isClash (topOf []) (topOf l) 32 := by unfold clashIn; rw [if_pos h]
theorem clashIn_yes (l : List Pr) (f : Prf) (h : ¬ f.n = 0) (k : Nat) (hk : k < f.items.length) (hc : clashAt l f k = true) : clashIn l f = true := by
  unfold clashIn
  rw [if_neg h]
  exact List.any_eq_true.2 ⟨k, List.mem_range.2 hk, hc⟩
theorem clashIn_no (l : List Pr) (f : Prf) (h : ¬ f.n = 0) (hc : ∀ k, k < f.items.length → clashAt l f k = false) : clashIn l f = false := by
  unfold clashIn
  rw [if_neg h]
  exact List.any_eq_false.2 fun k hk e => by have h1 := hc k (List.mem_range.1 hk); exact Bool.noConfusion (h1.symm.trans e)
set_option maxRecDepth 100000 in
set_option maxHeartbeats 4000000 in
theorem clashIn_ (b off cap : Nat) (l : List Pr) (N fr : Int) (a : Option Addr) (m c : Nat) (its : List It) (w : World) (h : SlP w (some ⟨b, off, none⟩) l.length l) (hcap : l.length ≤ cap) (hok : pairsOk l = true) (hJ : SlJ w a m its) (hm : m ≤ 1000) (hfr : -1 ≤ fr ∧ fr ≤ 61) (hK : sha.KW w) :
    Calls Tryz.prog 13 #[.slice (some ⟨b, off, none⟩) l.length cap, .agg #[.int .i64 N, .int .i64 fr, .slice a m c]] w fun e w' => e = .returned (.bool (clashIn l ⟨N, fr, its⟩)) ∧ Below w.heap.size w w' := by
  obtain ⟨i0, hi, hz0, hz1, hz2⟩ := info_parts info8
  have h60 := ok60 hok
  have hlim := ok_lim' hok
  obtain ⟨w0, hw0⟩ : ∃ w0, w.alloc (.cells #[.int .i64 N, .int .i64 fr, .slice a m c] 27) = w0 := ⟨_, rfl⟩
  have hb0 : Below w.heap.size w w0 := by rw [← hw0]; exact (Below.refl _ _).alloc (Nat.le_refl _) _
  have hV0 : V3 w0 w.heap.size 27 (.int .i64 N) (.int .i64 fr) (.slice a m c) := by rw [← hw0]; exact heap_alloc_new w _
  by_cases hN : N = 0
  · subst hN
    have HR := Hid.mk' (clashIn_zero l ⟨0, fr, its⟩ rfl)
    have HPN : Hid (∀ (wx : World) (n : Nat), n ≤ 60 → Calls Tryz.prog 36 #[.slice (some ⟨wx.heap.size, 0, none⟩) 1 1, .int .i64 (n : Int)] (wx.alloc (.cells #[.int .u8 2] 5)) fun e w' => ∃ g' n' cap', e = .returned (.slice (some ⟨g', 0, none⟩) n' cap') ∧ Own w' (wx.alloc (.cells #[.int .u8 2] 5)).heap.size g' n' cap' ([2] ++ numBytes (n : Int)) ∧ Below (wx.alloc (.cells #[.int .u8 2] 5)).heap.size (wx.alloc (.cells #[.int .u8 2] 5)) w') :=
      fun wx n hn => impl_put (some ⟨wx.heap.size, 0, none⟩) 1 1 [2] (n : Int) _ (own_one wx 2 2 rfl wx.heap.size (Nat.le_refl _)).sl (WalkArith.wf_i64 (by omega)) (by omega)
    have hi0 : (inner ([] : List Pr)).size ≤ 32 := Nat.le_of_eq (inner_size _)
    have hil : (inner l).size ≤ 32 := Nat.le_of_eq (inner_size l)
    have HI0 : Hid (∀ wx, Below w.heap.size w wx → Calls Tryz.prog 22 #[.slice (some ⟨wx.heap.size, 0, none⟩) 0 0] (wx.alloc (.cells #[] 49)) fun e w' => e = .returned (.string (inner ([] : List Pr))) ∧ Below (wx.alloc (.cells #[] 49)).heap.size (wx.alloc (.cells #[] 49)) w') :=
      fun wx hx => impl_innerOf wx.heap.size 0 0 0 [] _ (ownP_made wx wx.heap.size (Nat.le_refl _)).sl (Nat.le_refl _) (fun p hp => absurd hp List.not_mem_nil) (hK.below (hx.trans (((Below.refl _ _).alloc (Nat.le_refl _) _).mono hx.size)))
    have hii : innerI l = inner l := by unfold innerI; rw [if_pos h60]
    have HIL : Hid (∀ wx, Below w.heap.size w wx → Calls Tryz.prog 22 #[.slice (some ⟨b, off, none⟩) l.length cap] wx fun e w' => e = .returned (.string (inner l)) ∧ Below wx.heap.size wx w') := fun wx hx => by
      have := impl_innerOf b off l.length cap l wx (h.below hx) hcap hlim (hK.below hx)
      rw [hii] at this; exact this
    have HT0 : Hid ((⟨([2] ++ numBytes ((0 : Nat) : Int) ++ (inner ([] : List Pr)).data.toList).toArray⟩ : ByteArray) = topOf []) := rfl
    have HTL : Hid ((⟨([2] ++ numBytes (l.length : Int) ++ (inner l).data.toList).toArray⟩ : ByteArray) = topOf l) := rfl
    have hz9 := topOf_size []
    have hz8 := topOf_size l
    have HC1 : Hid (∀ wx, Below w.heap.size w wx → Calls Tryz.prog 37 #[.string (topOf []), .string (topOf l), .int .i64 32] wx fun e w' => e = .returned (.bool (isClash (topOf []) (topOf l) 32)) ∧ Below wx.heap.size wx w') := fun wx hx => impl_isClash _ _ 32 wx (by omega) (by omega) (hK.below hx)
    have HC2 : Hid (∀ wx, Calls Tryz.prog 38 #[.string (topOf []), .string (topOf l), .int .i64 32] wx fun e w' => e = .returned (.bool (isClash (topOf []) (topOf l) 32)) ∧ Below wx.heap.size wx w') := fun wx => spec_isClash _ _ 32 wx (by omega) (by omega)
    have v0 := hV0.c0
    generalize inner ([] : List Pr) = x0 at *
    generalize inner l = xl at *
    generalize topOf [] = t0 at *
    generalize topOf l = tl at *
    generalize isClash t0 tl 32 = cl at *
    have HNL := Hid.mk' (numBytes_len9 (l.length : Int))
    have HN0 := Hid.mk' (numBytes_len9 (0 : Int))
    clear hK h hJ hlim hok
    go_enter Tryz.func13, Tryz.ntmps13
    go_wp2_with (at_builtin; fail)
    (try rw [hw0])
    clear hw0
    refine (HPN.out w0 0 (by omega)).mono ?_
    rintro e w1 ⟨g1, n1, c1, rfl, hO1, hb1'⟩
    have hba0 : Below w0.heap.size w0 (w0.alloc (.cells #[.int .u8 2] 5)) := (Below.refl _ _).alloc (Nat.le_refl _) _
    have hb1 : Below w0.heap.size w0 w1 := hba0.trans (hb1'.mono hba0.size)
    have hB1 := hb0.trans (hb1.mono hb0.size)
    have hO1' := hO1.mono (base' := w0.heap.size) hba0.size
    clear hO1 hb1' hba0
    go_wp2_with (at_builtin; fail)
    refine (HI0.out _ hB1).mono ?_
    rintro e w2 ⟨rfl, hb2'⟩
    have hba1 : Below w1.heap.size w1 (w1.alloc (.cells #[] 49)) := (Below.refl _ _).alloc (Nat.le_refl _) _
    have hb2 := hba1.trans (hb2'.mono hba1.size)
    have hO2 := hO1'.below hb2
    have hB2 := hB1.trans (hb2.mono hB1.size)
    have hbb2 := hb1.trans (hb2.mono hb1.size)
    have hn1 : n1 ≤ 20 := by have := hO2.1; have := HN0.out; simp at *; omega
    have hc3 : n1 + x0.size ≤ maxLen := by unfold maxLen; omega
    have hc4 : n1 + x0.size ≤ 140737488355328 := by omega
    clear hO1' hb2' hba1 HI0 hb1 hB1
    go_wp2_with (at_builtin; refine Lib.wpList_append_own_string _ rfl (.tmp 15) (.tmp 17) 22 9 rfl w0.heap.size 5 i0 Tryz.underlying22 Tryz.underlying9 hi hz0 hz1 hz2 _ _ _ rfl hO2.2 x0 rfl hc3 hc4 hbb2.size ?_)
    intro v3 w3 hown hgrow hnn
    have hnn' : ¬ v3 = .slice none 0 0 := by simpa using hnn
    rw [strCells_eq] at hown
    obtain ⟨g3, c3, hv, hO3⟩ := own_app (m := x0.size) (ns := x0.data.toList) hO2.1 (size_toList x0) rfl hnn' hown
    subst hv
    have hbb3 : Below w0.heap.size w0 w3 := hbb2.grown hgrow hbb2.size (fun k e => by simp [Value.ownBlock] at e; have := hO2.lt; omega)
    have hB3 := hb0.trans (hbb3.mono hb0.size)
    have hcv := conv_own hO3
    rw [HT0.out] at hcv
    clear hown hgrow hnn hnn' hO2 hbb2 hB2 hO3 hbb3 HT0
    go_wp2_with (at_builtin; fail)
    refine (HPN.out w3 l.length h60).mono ?_
    rintro e w4 ⟨g4, n4, c4, rfl, hO4, hb4'⟩
    have hba3 : Below w3.heap.size w3 (w3.alloc (.cells #[.int .u8 2] 5)) := (Below.refl _ _).alloc (Nat.le_refl _) _
    have hb4 : Below w3.heap.size w3 w4 := hba3.trans (hb4'.mono hba3.size)
    have hB4 := hB3.trans (hb4.mono hB3.size)
    have hO4' := hO4.mono (base' := w3.heap.size) hba3.size
    clear hO4 hb4' hba3 hcv HPN
    go_wp2_with (at_builtin; fail)
    refine (HIL.out _ hB4).mono ?_
    rintro e w5 ⟨rfl, hb5'⟩
    have hO5 := hO4'.below hb5'
    have hb5 := hb4.trans (hb5'.mono hb4.size)
    have hn4 : n4 ≤ 20 := by have := hO5.1; have := HNL.out; simp at *; omega
    have hc5 : n4 + xl.size ≤ maxLen := by unfold maxLen; omega
    have hc6 : n4 + xl.size ≤ 140737488355328 := by omega
    clear hO4' hb5' HIL hb4 hB4
    go_wp2_with (at_builtin; refine Lib.wpList_append_own_string _ rfl (.tmp 23) (.tmp 25) 22 9 rfl w3.heap.size 5 i0 Tryz.underlying22 Tryz.underlying9 hi hz0 hz1 hz2 _ _ _ rfl hO5.2 xl rfl hc5 hc6 hb5.size ?_)
    intro v6 w6 hown hgrow hnn
    have hnn' : ¬ v6 = .slice none 0 0 := by simpa using hnn
    rw [strCells_eq] at hown
    obtain ⟨g6, c6, hv, hO6⟩ := own_app (m := xl.size) (ns := xl.data.toList) hO5.1 (size_toList xl) rfl hnn' hown
    subst hv
    have hb6 : Below w3.heap.size w3 w6 := hb5.grown hgrow hb5.size (fun k e => by simp [Value.ownBlock] at e; have := hO5.lt; omega)
    have hB6 := hB3.trans (hb6.mono hB3.size)
    have hcv := conv_own hO6
    rw [HTL.out] at hcv
    clear hown hgrow hnn hnn' hO5 hb5 hO6 HTL
    go_wp2_with (at_builtin; fail)
    refine (HC1.out _ hB6).mono ?_
    rintro e w7 ⟨rfl, hb7⟩
    have hB7 := hB6.trans (hb7.mono hB6.size)
    clear hcv HC1
    cases cl with
    | true =>
      go_wp2_with (at_builtin; fail)
      refine (HC2.out _).mono ?_
      rintro e w8 ⟨rfl, hb8⟩
      have hB8 := hB7.trans (hb8.mono hB7.size)
      go_wp2_with (at_builtin; fail)
      go_ret
      exact ⟨ret_bool (by rw [HR.out]), hB8⟩
    | false =>
      go_wp2_with (at_builtin; fail)
      go_ret
      exact ⟨ret_bool (by rw [HR.out]), hB7⟩
  · have HY := Hid.mk' (clashIn_yes l ⟨N, fr, its⟩ hN)
    have HNO := Hid.mk' (clashIn_no l ⟨N, fr, its⟩ hN)
    have hNb : (N == 0) = false := beq_eq_false_iff_ne.2 hN
    have hlen := hJ.1
    subst hlen
    have HPA : Hid (∀ (x : It) (wx : World) (k : Nat) (pb po pc : Nat), limI x → SlS wx (some ⟨pb, po, none⟩) x.2.length x.2 → x.2.length ≤ pc → Below w.heap.size w wx → Calls Tryz.prog 39 #[.slice (some ⟨b, off, none⟩) l.length cap, .agg #[.string x.1.1, .string x.1.2], .int .i64 (fr + (k : Int)), .int .i64 N, .slice (some ⟨pb, po, none⟩) x.2.length pc] wx (PAPost wx (partAt l x.1 (fr + (k : Int)) N x.2))) :=
      fun x wx k pb po pc hx hS hpc hw => impl_partAt b off cap l x.1 (fr + (k : Int)) N pb po pc x.2 wx (h.below hw) hcap (fun p hp => Nat.le_trans (hlim p hp).1 (by omega)) hx.1 hS hx.2 hpc (hK.below hw)
    have HC1 : Hid (∀ (x y : ByteArray) wx, Below w.heap.size w wx → x.size ≤ 137438953600 → y.size ≤ 137438953600 → Calls Tryz.prog 37 #[.string x, .string y, .int .i64 32] wx fun e w' => e = .returned (.bool (isClash x y 32)) ∧ Below wx.heap.size wx w') := fun x y wx hx h1 h2 => impl_isClash x y 32 wx (by omega) (by omega) (hK.below hx)
    have HC2 : Hid (∀ (x y : ByteArray) wx, x.size ≤ 137438953600 → y.size ≤ 137438953600 → Calls Tryz.prog 38 #[.string x, .string y, .int .i64 32] wx fun e w' => e = .returned (.bool (isClash x y 32)) ∧ Below wx.heap.size wx w') := fun x y wx h1 h2 => spec_isClash x y 32 wx (by omega) (by omega)
    have HJ := Hid.mk' (hJ.below hb0)
    have v0 := hV0.c0
    have HV := Hid.mk' hV0
    clear hK h hJ hlim hok hV0
    go_enter Tryz.func13, Tryz.ntmps13
    go_wp2_with (at_builtin; fail)
    (try rw [hw0])
    clear hw0
    go_loopw [7] (fun kv wr => ∃ k : Nat, kv = .int .i64 (k : Int) ∧ k ≤ its.length ∧ (∀ j, j < k → clashAt l ⟨N, fr, its⟩ j = false) ∧ Below w0.heap.size w0 wr) (fun kv _ => its.length - (intOf kv).toNat)
    case atStart => exact ⟨0, rfl, Nat.zero_le _, fun j hj => absurd hj (Nat.not_lt_zero _), Below.refl _ _⟩
    case round =>
      obtain ⟨k, rfl, hk, hno, hB⟩ := hrel
      have hVr := HV.out.below hB
      have u0 := hVr.c0
      have u1 := hVr.c1
      have u2 := hVr.c2
      have hvl := hVr.lt
      have hBw := hb0.trans (hB.mono hb0.size)
      clear v0
      by_cases hlt : k < its.length
      · obtain ⟨ib, io, ha, hc⟩ := (HJ.out.below hB).2.2.2 (by omega)
        have hxl := HJ.out.2.2.1 its[k] (List.getElem_mem hlt)
        obtain ⟨c1, c2, pb, po, pc, c3, hS, hpc⟩ := hc k hlt
        subst ha
        have hat : clashAt l ⟨N, fr, its⟩ k = (partAt l its[k].1 (fr + (k : Int)) N its[k].2).2.2 := by
          unfold clashAt; simp only [List.getElem?_eq_getElem hlt]
        have hsm := partAt_small l its[k].1 (fr + (k : Int)) N its[k].2 hxl.1 hxl.2
        have hPAis := partAt_is l its[k].1 (fr + (k : Int)) N its[k].2
        have hpa := fun (wx : World) (hx : Below wr.heap.size wr wx) => HPA.out its[k] wx k pb po pc hxl (hS.below hx) hpc (hBw.trans (hx.mono hBw.size))
        have hki : (k : Int) < (its.length : Int) := by omega
        have hsum : IntKind.i64.wrap (fr + (k : Int)) = fr + (k : Int) := by rw [IntKind.wrap_i64]; omega
        have HYk := Hid.mk' (HY.out k hlt)
        have hbl : ib < wr.heap.size := World.block_lt_of_cell? wr _ c1
        obtain ⟨x, hx⟩ : ∃ x, its[k] = x := ⟨_, rfl⟩
        simp only [hx] at c1 c2 c3 hS hpc hxl hat hsm hPAis hpa
        clear hx HJ hc hS HPA
        generalize partAt l x.1 (fr + (k : Int)) N x.2 = res at *
        obtain ⟨rx, ry, rc⟩ := res
        simp only [] at hat hsm hPAis
        have HAT := Hid.mk' hat
        have HPAI := Hid.mk' hPAis
        clear hat hPAis
        have hinh := last.On.inh wr.heap.size wr
        have o0 := last.On.cell u0 hvl
        have o1 := last.On.cell u1 hvl
        have o2 := last.On.cell u2 hvl
        have o3 := last.On.cell c1 hbl
        have o4 := last.On.cell c2 hbl
        have o5 := last.On.cell c3 hbl
        have hcall : ∀ x9 : last.On wr.heap.size wr, Calls Tryz.prog 39 #[.slice (some ⟨b, off, none⟩) l.length cap, .agg #[.string x.1.1, .string x.1.2], .int .i64 (fr + (k : Int)), .int .i64 N, .slice (some ⟨pb, po, none⟩) x.2.length pc] x9.w fun e w' => e = .returned (.tuple #[.string rx, .string ry, .bool rc]) ∧ ∃ y9 : last.On wr.heap.size wr, w' = y9.w := fun x9 => last.Calls.on x9 (Nat.le_refl _) (hpa x9.w x9.2)
        clear hpa c1 c2 c3
        cases rc with
        | true =>
          have hcl := HPAI.out rfl
          have HR := Hid.mk' (HYk.out HAT.out)
          clear HAT HPAI HYk HY HNO hno
          go_wp2_with (at_builtin; fail)
          refine last.wp_region_on wr.heap.size (by kernel_rfl) (by kernel_rfl) ?_
          repeat (go_big_quiet_step ((go_at_call 39; with_reducible exact hcall _)))
          refine wpQuiet_nil ?_
          intro w11 hw11
          obtain ⟨x11, hw11⟩ := hw11
          subst hw11
          have hB11 : Below w.heap.size w x11.w := hBw.trans (x11.2.mono hBw.size)
          have H1 := Hid.mk' (HC1.out rx ry x11.w hB11 hsm.1 hsm.2)
          have H2 := Hid.mk' (fun wx => HC2.out rx ry wx hsm.1 hsm.2)
          rw [hcl] at H1 H2
          clear o0 o1 o2 o3 o4 o5 hcall HC1 HC2 hcl
          go_wp2_with (at_builtin; fail)
          refine H1.out.mono ?_
          rintro e w12 ⟨rfl, hb12⟩
          have hB12 := hB11.trans (hb12.mono hB11.size)
          go_wp2_with (at_builtin; fail)
          refine (H2.out _).mono ?_
          rintro e w13 ⟨rfl, hb13⟩
          have hB13 := hB12.trans (hb13.mono hB12.size)
          go_wp2_with (at_builtin; fail)
          go_ret
          exact ⟨ret_bool (by rw [HR.out]), hB13⟩
        | false =>
          have hno2 : ∀ j, j < k + 1 → clashAt l ⟨N, fr, its⟩ j = false := fun j hj => by
            by_cases e : j = k
            · subst e; exact HAT.out
            · exact hno j (by omega)
          have HNO2 := Hid.mk' hno2
          clear HAT HPAI HYk HY HNO hno hno2
          go_wp2_with (at_builtin; fail)
          refine last.wp_region_on wr.heap.size (by kernel_rfl) (by kernel_rfl) ?_
          repeat (go_big_quiet_step ((go_at_call 39; with_reducible exact hcall _)))
          refine wpQuiet_nil ?_
          intro w11 hw11
          obtain ⟨x11, hw11⟩ := hw11
          subst hw11
          have hB11 : Below w0.heap.size w0 x11.w := hB.trans (x11.2.mono hB.size)
          clear o0 o1 o2 o3 o4 o5 hcall
          go_wp2_with (at_builtin; fail)
          go_roundw
          case rel => exact ⟨k + 1, by go_num, by omega, HNO2.out, hB11⟩
          case measure => simp [intOf]; omega
      · have hki : ¬ (k : Int) < (its.length : Int) := by omega
        have HR := Hid.mk' (HNO.out (fun j hj => hno j (by have : j < its.length := hj; omega)))
        clear HY HNO hno
        go_wp2_with (at_builtin; fail)
        go_ret
        exact ⟨ret_bool (by rw [HR.out]), hBw⟩
end Go.Proofs.YtdebbgodhpcijaaGreatDoor.clash
