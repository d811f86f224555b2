/- The statement FnPartedCardSaid: at every slice of bytes FnParted answers true, and the slice reads afterwards as before, where the table of the rounds' words is as the program's text lays it (the card ties it). No condition besides the row's own. -/
import Derived.Test.YtdebbgodhpcijaaDoorRows
import Derived.Test.YtdebbgodhpcijaaDoorCards
import Derived.Test.YtdebbgodhpcijaaDoorTie
import Derived.Test.YtdebbgodhpcijaaDoorClashQ
import Derived.Test.YtdebbgodhpcijaaDoorClashR
import Derived.Test.YtdebbgodhpcijaaDoorDrawD
import Derived.Test.YtdebbgodhpcijaaDoorDrawA
import Derived.Test.YtdebbgodhpcijaaDoorDoor
import Derived.ProofKit
import Derived.OpenShut
import Derived.ShutString
import Derived.ChangeOld
import Derived.Below
namespace Go.Proofs.YtdebbgodhpcijaaDoor.fnParted
open Go.ChangeShapes Go.WideShapes Go.ChangeAt Go.RowKit
open Go.ChangeMaps (open_string shut_string)
set_option linter.unusedVariables false
open Go.Proofs.YtdebbgodhpcijaaDoor.base Go.Proofs.YtdebbgodhpcijaaDoor.pairs Go.Proofs.YtdebbgodhpcijaaDoor.tree Go.Proofs.YtdebbgodhpcijaaDoor.clash Go.Proofs.YtdebbgodhpcijaaDoor.draw

set_option maxRecDepth 100000 in
set_option maxHeartbeats 4000000 in
theorem walk (a0 : Option Addr) (len0 cap0 : Nat) (b0 : List UInt8) (w : World) (w0 : Sl w a0 len0 b0) (hK : sha.KW w) :
    Calls Tryd.prog 4 #[.slice a0 len0 cap0] w fun e w' => e = .returned (.bool true) ∧ Below w.heap.size w w' := by
  have hm := w0.2.1
  by_cases hbig : 1048576 < len0
  · have hb := big_ a0 len0 cap0 w hm
    rw [decide_eq_true (by omega)] at hb
    have HB := Hid.mk' hb
    clear hb
    go_enter Tryd.func4, Tryd.ntmps4
    go_wp2_with fail
    refine HB.out.mono ?_
    rintro e wa ⟨rfl, rfl⟩
    go_wp2_with fail
    go_ret
    exact ⟨rfl, Below.refl _ _⟩
  · have hb := big_ a0 len0 cap0 w hm
    rw [decide_eq_false (by omega)] at hb
    have HB := Hid.mk' hb
    clear hb
    go_enter Tryd.func4, Tryd.ntmps4
    go_wp2_with fail
    refine HB.out.mono ?_
    rintro e wa ⟨rfl, hwa⟩
    subst hwa
    go_wp2_with fail
    refine (drawPartAt a0 len0 cap0 b0 _ w0 (by omega)).mono ?_
    rintro e w1 ⟨g, n, cp, l, p, i, N, gp, np, cpp, P, hn, ht, hp1, hp2, hi, hN1, hN2, hnp, hPs, rfl, hO1, hP1, hB1⟩
    have hl := hO1.1
    have hpl := hP1.1
    subst hl hpl
    have hcp := hO1.cases.1
    have hcpp := hP1.cases.1
    have hlim : ∀ p ∈ l, lim p := fun p hp => ⟨Nat.le_trans (ht p hp).1 (by omega), Nat.le_trans (ht p hp).2 (by omega)⟩
    have hks : ∀ p ∈ l, p.1.size ≤ 1099511627776 := fun p hp => Nat.le_trans (ht p hp).1 (by omega)
    have hpm : lim p := ⟨by omega, by omega⟩
    have hfit : fit p := ⟨by omega, by omega⟩
    have hPlim : ∀ s ∈ P, s.size ≤ 137438953472 := fun s hs => Nat.le_trans (hPs s hs) (by omega)
    obtain ⟨w2, hw2⟩ : ∃ w2, w1.alloc (.cells #[.string p.1, .string p.2] 28) = w2 := ⟨_, rfl⟩
    have hb2 : Below w1.heap.size w1 w2 := by rw [← hw2]; exact (Below.refl _ _).alloc (Nat.le_refl _) _
    have hV2 : PBox w2 w1.heap.size p := by rw [← hw2]; exact pbox_new w1 p
    have hB2 := hB1.trans (hb2.mono hB1.size)
    have hO2 := hO1.below hb2
    have hP2 := hP1.below hb2
    have hK2 := hK.below hB2
    have hsm := partAt_small l p (i : Int) N P hpm hPlim
    have hPAis := partAt_is l p (i : Int) N P
    have hpart := fun hok hc => parted l p (i : Int) N P hok hfit hc
    have HPA : Hid (∀ wx, Below w2.heap.size w2 wx → Calls Tryd.prog 12 #[.slice (some ⟨g, 0, none⟩) l.length cp, .agg #[.string p.1, .string p.2], .int .i64 (i : Int), .int .i64 N, .slice (some ⟨gp, 0, none⟩) P.length cpp] wx (PAPost wx (clash.partAt l p (i : Int) N P))) :=
      fun wx hx => impl_partAt g 0 cp l p (i : Int) N gp 0 cpp P wx (hO2.sl.below hx) hcp hks hpm (hP2.sl.below hx) hPlim hcpp (hK2.below hx)
    have HPS : Hid (∀ wx, Below w2.heap.size w2 wx → Calls Tryd.prog 18 #[.slice (some ⟨g, 0, none⟩) l.length cp, .agg #[.string p.1, .string p.2], .int .i64 (i : Int), .int .i64 N, .slice (some ⟨gp, 0, none⟩) P.length cpp] wx (PAPost wx (clash.partAt l p (i : Int) N P))) :=
      fun wx hx => spec_partAt g 0 cp l p (i : Int) N gp 0 cpp P wx (hO2.sl.below hx) hcp hks hpm (hP2.sl.below hx) hPlim hcpp
    have HC : Hid (∀ (x y : ByteArray) wx, Below w2.heap.size w2 wx → x.size ≤ 137438953600 → y.size ≤ 137438953600 → Calls Tryd.prog 14 #[.string x, .string y, .int .i64 32] wx fun e w' => e = .returned (.bool (isClash x y 32)) ∧ Below wx.heap.size wx w') := fun x y wx hx h1 h2 => impl_isClash x y 32 wx (by omega) (by omega) (hK2.below hx)
    have HOK : Hid (∀ wx, Below w2.heap.size w2 wx → Calls Tryd.prog 19 #[.slice (some ⟨g, 0, none⟩) l.length cp] wx fun e w' => e = .returned (.bool (pairsOk l)) ∧ Below wx.heap.size wx w') := fun wx hx => spec_pairsOk g 0 l.length cp l wx (hO2.sl.below hx) hks
    have hri : rootI l = rootOf l := by unfold rootI; rw [if_pos (by omega)]
    have HRO : Hid (∀ wx, Below w2.heap.size w2 wx → Calls Tryd.prog 10 #[.slice (some ⟨g, 0, none⟩) l.length cp] wx fun e w' => e = .returned (.string (rootOf l)) ∧ Below wx.heap.size wx w') := fun wx hx => by
      have := impl_rootOf g 0 l.length cp l wx (hO2.sl.below hx) hcp hlim (hK2.below hx)
      rw [hri] at this; exact this
    have hrs : (rootOf l).size = 32 := dg_size _
    have HCP : Hid (∀ wx, Below w2.heap.size w2 wx → Calls Tryd.prog 20 #[.agg #[.string p.1, .string p.2], .int .i64 (i : Int), .int .i64 N, .slice (some ⟨gp, 0, none⟩) P.length cpp, .string (rootOf l)] wx fun e w' => e = .returned (.bool (checkPathI p (i : Int) N P (rootOf l))) ∧ Below wx.heap.size wx w') :=
      fun wx hx => impl_checkPath p (i : Int) N gp 0 cpp P (rootOf l) wx hpm (hP2.sl.below hx) hPlim hcpp (by rw [hrs]; decide) (WalkArith.wf_i64 (by omega)) (WalkArith.wf_i64 (by omega)) (hK2.below hx)
    have hgl2 := hO2.lt.2
    have hcellsF : ∀ (hil : i < l.length), w2.cell? ⟨g, i * 2, none⟩ = some (.string l[i].1) ∧ w2.cell? ⟨g, i * 2 + 1, none⟩ = some (.string l[i].2) := fun hil => ⟨hO2.key i hil, hO2.val i hil⟩
    have HCF := Hid.mk' hcellsF
    have v0 := hV2.c0
    have v1 := hV2.c1
    have hvl := hV2.lt
    have HPAI := Hid.mk' hPAis
    have HPRT := Hid.mk' hpart
    generalize hcc : checkPathI p (i : Int) N P (rootOf l) = cc at *
    generalize rootOf l = root at *
    generalize hres : clash.partAt l p (i : Int) N P = res at *
    obtain ⟨x, y, c⟩ := res
    simp only [] at hsm
    have he1 : (x.toList == x.toList) = true := beq_self_eq_true _
    have he2 : (y.toList == y.toList) = true := beq_self_eq_true _
    have HCC := Hid.mk' hcc
    clear hres hcc hPAis hpart hcellsF hK2 hK hO1 hO2 hP1 hP2 hV2 hB1 hb2 hlim hks hpm hfit hPlim hPs HB hm hri
    go_wp2_with fail
    (try rw [hw2])
    clear hw2
    refine (HPA.out _ (Below.refl _ _)).mono ?_
    rintro e w3 ⟨rfl, hb3⟩
    have d0 := keepC hb3 v0
    have d1 := keepC hb3 v1
    clear HPA
    go_wp2_with fail
    refine (HPS.out _ hb3).mono ?_
    rintro e w4 ⟨rfl, hb4'⟩
    have hb4 := hb3.trans (hb4'.mono hb3.size)
    clear HPS d0 d1 hb3 hb4'
    cases c with
    | true =>
      have hcl : isClash x y 32 = true := HPAI.out rfl
      have HCL := Hid.mk' (HC.out x y)
      rw [hcl] at HCL
      go_wp2_with fail
      refine (HCL.out _ hb4 hsm.1 hsm.2).mono ?_
      rintro e w5 ⟨rfl, hb5'⟩
      have hb5 := hb4.trans (hb5'.mono hb4.size)
      clear HCL hb4 hb5' hcl
      have hBz := hB2.trans (hb5.mono hB2.size)
      have hinh := last.On.inh w5.heap.size w5
      have hxx : ∀ x9 : last.On w5.heap.size w5, Below w2.heap.size w2 x9.w := fun x9 => hb5.trans (x9.2.mono hb5.size)
      have o1 := last.On.cell (keepC hb5 v0) (Nat.lt_of_lt_of_le hvl hb5.size)
      have o2 := last.On.cell (keepC hb5 v1) (Nat.lt_of_lt_of_le hvl hb5.size)
      cases hok : pairsOk l with
      | false =>
        have c1 : ∀ x9 : last.On w5.heap.size w5, Calls Tryd.prog 19 #[.slice (some ⟨g, 0, none⟩) l.length cp] x9.w fun e w' => e = .returned (.bool false) ∧ ∃ y9 : last.On w5.heap.size w5, w' = y9.w := fun x9 => last.Calls.on x9 (Nat.le_refl _) (by have := HOK.out _ (hxx x9); rw [hok] at this; exact this)
        clear HOK HRO HCP HC HCF HPRT HPAI
        go_wp2_with fail
        refine last.wp_region_on w5.heap.size (by kernel_rfl) (by kernel_rfl) ?_
        repeat (go_big_quiet_step ((go_at_call 19; with_reducible exact c1 _)))
        refine wpQuiet_nil ?_
        intro w6 hw6
        obtain ⟨x6, hw6⟩ := hw6
        subst hw6
        have hB6 := hBz.trans (x6.2.mono hBz.size)
        go_wp2_with fail
        go_ret
        exact ⟨rfl, hB6⟩
      | true =>
        have c1 : ∀ x9 : last.On w5.heap.size w5, Calls Tryd.prog 19 #[.slice (some ⟨g, 0, none⟩) l.length cp] x9.w fun e w' => e = .returned (.bool true) ∧ ∃ y9 : last.On w5.heap.size w5, w' = y9.w := fun x9 => last.Calls.on x9 (Nat.le_refl _) (by have := HOK.out _ (hxx x9); rw [hok] at this; exact this)
        have c2 : ∀ x9 : last.On w5.heap.size w5, Calls Tryd.prog 10 #[.slice (some ⟨g, 0, none⟩) l.length cp] x9.w fun e w' => e = .returned (.string root) ∧ ∃ y9 : last.On w5.heap.size w5, w' = y9.w := fun x9 => last.Calls.on x9 (Nat.le_refl _) (HRO.out _ (hxx x9))
        cases cc with
        | false =>
          have c3 : ∀ x9 : last.On w5.heap.size w5, Calls Tryd.prog 20 #[.agg #[.string p.1, .string p.2], .int .i64 (i : Int), .int .i64 N, .slice (some ⟨gp, 0, none⟩) P.length cpp, .string root] x9.w fun e w' => e = .returned (.bool false) ∧ ∃ y9 : last.On w5.heap.size w5, w' = y9.w := fun x9 => last.Calls.on x9 (Nat.le_refl _) (HCP.out _ (hxx x9))
          clear HOK HRO HCP HC HCF HPRT HPAI
          go_wp2_with fail
          refine last.wp_region_on w5.heap.size (by kernel_rfl) (by kernel_rfl) ?_
          repeat (go_big_quiet_step ((first | (go_at_call 19; with_reducible exact c1 _) | (go_at_call 10; with_reducible exact c2 _) | (go_at_call 20; with_reducible exact c3 _))))
          refine wpQuiet_nil ?_
          intro w6 hw6
          obtain ⟨x6, hw6⟩ := hw6
          subst hw6
          have hB6 := hBz.trans (x6.2.mono hBz.size)
          go_wp2_with fail
          go_ret
          exact ⟨rfl, hB6⟩
        | true =>
          have c3 : ∀ x9 : last.On w5.heap.size w5, Calls Tryd.prog 20 #[.agg #[.string p.1, .string p.2], .int .i64 (i : Int), .int .i64 N, .slice (some ⟨gp, 0, none⟩) P.length cpp, .string root] x9.w fun e w' => e = .returned (.bool true) ∧ ∃ y9 : last.On w5.heap.size w5, w' = y9.w := fun x9 => last.Calls.on x9 (Nat.le_refl _) (HCP.out _ (hxx x9))
          clear HOK HRO HCP HC HPRT HPAI HCF
          go_wp2_with fail
          refine last.wp_region_on w5.heap.size (by kernel_rfl) (by kernel_rfl) ?_
          repeat (go_big_quiet_step ((first | (go_at_call 19; with_reducible exact c1 _) | (go_at_call 10; with_reducible exact c2 _) | (go_at_call 20; with_reducible exact c3 _))))
          refine wpQuiet_nil ?_
          intro w6 hw6
          obtain ⟨x6, hw6⟩ := hw6
          subst hw6
          have hB6 := hBz.trans (x6.2.mono hBz.size)
          have hinh6 := last.On.inh x6.w.heap.size x6.w
          clear o1 o2 c1 c2 c3 hinh
          go_wp2_with fail
          refine last.wp_region_on x6.w.heap.size (by kernel_rfl) (by kernel_rfl) ?_
          repeat (go_big_quiet_step ((fail)))
          refine wpQuiet_nil ?_
          intro w7 hw7
          obtain ⟨x7, hw7⟩ := hw7
          subst hw7
          have hB7 := hB6.trans (x7.2.mono hB6.size)
          go_wp2_with fail
          go_ret
          exact ⟨rfl, hB7⟩
    | false =>
      have hb5 := hb4
      obtain ⟨w5, hw5⟩ : ∃ w5, w4 = w5 := ⟨_, rfl⟩
      subst hw5
      have hBz := hB2.trans (hb5.mono hB2.size)
      have hinh := last.On.inh w4.heap.size w4
      have hxx : ∀ x9 : last.On w4.heap.size w4, Below w2.heap.size w2 x9.w := fun x9 => hb5.trans (x9.2.mono hb5.size)
      have o1 := last.On.cell (keepC hb5 v0) (Nat.lt_of_lt_of_le hvl hb5.size)
      have o2 := last.On.cell (keepC hb5 v1) (Nat.lt_of_lt_of_le hvl hb5.size)
      cases hok : pairsOk l with
      | false =>
        have c1 : ∀ x9 : last.On w4.heap.size w4, Calls Tryd.prog 19 #[.slice (some ⟨g, 0, none⟩) l.length cp] x9.w fun e w' => e = .returned (.bool false) ∧ ∃ y9 : last.On w4.heap.size w4, w' = y9.w := fun x9 => last.Calls.on x9 (Nat.le_refl _) (by have := HOK.out _ (hxx x9); rw [hok] at this; exact this)
        clear HOK HRO HCP HC HCF HPRT HPAI
        go_wp2_with fail
        refine last.wp_region_on w4.heap.size (by kernel_rfl) (by kernel_rfl) ?_
        repeat (go_big_quiet_step ((go_at_call 19; with_reducible exact c1 _)))
        refine wpQuiet_nil ?_
        intro w6 hw6
        obtain ⟨x6, hw6⟩ := hw6
        subst hw6
        have hB6 := hBz.trans (x6.2.mono hBz.size)
        go_wp2_with fail
        go_ret
        exact ⟨rfl, hB6⟩
      | true =>
        have c1 : ∀ x9 : last.On w4.heap.size w4, Calls Tryd.prog 19 #[.slice (some ⟨g, 0, none⟩) l.length cp] x9.w fun e w' => e = .returned (.bool true) ∧ ∃ y9 : last.On w4.heap.size w4, w' = y9.w := fun x9 => last.Calls.on x9 (Nat.le_refl _) (by have := HOK.out _ (hxx x9); rw [hok] at this; exact this)
        have c2 : ∀ x9 : last.On w4.heap.size w4, Calls Tryd.prog 10 #[.slice (some ⟨g, 0, none⟩) l.length cp] x9.w fun e w' => e = .returned (.string root) ∧ ∃ y9 : last.On w4.heap.size w4, w' = y9.w := fun x9 => last.Calls.on x9 (Nat.le_refl _) (HRO.out _ (hxx x9))
        cases cc with
        | false =>
          have c3 : ∀ x9 : last.On w4.heap.size w4, Calls Tryd.prog 20 #[.agg #[.string p.1, .string p.2], .int .i64 (i : Int), .int .i64 N, .slice (some ⟨gp, 0, none⟩) P.length cpp, .string root] x9.w fun e w' => e = .returned (.bool false) ∧ ∃ y9 : last.On w4.heap.size w4, w' = y9.w := fun x9 => last.Calls.on x9 (Nat.le_refl _) (HCP.out _ (hxx x9))
          clear HOK HRO HCP HC HCF HPRT HPAI
          go_wp2_with fail
          refine last.wp_region_on w4.heap.size (by kernel_rfl) (by kernel_rfl) ?_
          repeat (go_big_quiet_step ((first | (go_at_call 19; with_reducible exact c1 _) | (go_at_call 10; with_reducible exact c2 _) | (go_at_call 20; with_reducible exact c3 _))))
          refine wpQuiet_nil ?_
          intro w6 hw6
          obtain ⟨x6, hw6⟩ := hw6
          subst hw6
          have hB6 := hBz.trans (x6.2.mono hBz.size)
          go_wp2_with fail
          go_ret
          exact ⟨rfl, hB6⟩
        | true =>
          have c3 : ∀ x9 : last.On w4.heap.size w4, Calls Tryd.prog 20 #[.agg #[.string p.1, .string p.2], .int .i64 (i : Int), .int .i64 N, .slice (some ⟨gp, 0, none⟩) P.length cpp, .string root] x9.w fun e w' => e = .returned (.bool true) ∧ ∃ y9 : last.On w4.heap.size w4, w' = y9.w := fun x9 => last.Calls.on x9 (Nat.le_refl _) (HCP.out _ (hxx x9))
          have hpp := HPRT.out hok rfl
          have hpp2 : N = (l.length : Int) ∧ l[i]? = some p := by
            rcases hpp with h | h
            · cases h
            · rw [Int.toNat_natCast] at h; exact h
          obtain ⟨hNl, hli⟩ := hpp2
          obtain ⟨hil, hle⟩ := List.getElem?_eq_some_iff.1 hli
          have hcf := HCF.out hil
          rw [hle] at hcf
          have hili : (i : Int) < (l.length : Int) := by omega
          have m1 := keepC hb5 hcf.1
          have m2 := keepC hb5 hcf.2
          have hgl5 : g < w4.heap.size := Nat.lt_of_lt_of_le hgl2 hb5.size
          have hq1 : (p.1.toList == p.1.toList) = true := beq_self_eq_true _
          have hq2 : (p.2.toList == p.2.toList) = true := beq_self_eq_true _
          clear hpp hcf hle hli
          subst hNl
          clear HOK HRO HCP HC HPRT HPAI HCF
          go_wp2_with fail
          refine last.wp_region_on w4.heap.size (by kernel_rfl) (by kernel_rfl) ?_
          repeat (go_big_quiet_step ((first | (go_at_call 19; with_reducible exact c1 _) | (go_at_call 10; with_reducible exact c2 _) | (go_at_call 20; with_reducible exact c3 _))))
          refine wpQuiet_nil ?_
          intro w6 hw6
          obtain ⟨x6, hw6⟩ := hw6
          subst hw6
          have hB6 := hBz.trans (x6.2.mono hBz.size)
          have t1 := last.On.cell m1 hgl5 x6
          have t2 := last.On.cell m2 hgl5 x6
          have t3 := o1 x6
          have t4 := o2 x6
          have hg6 : g < x6.w.heap.size := Nat.lt_of_lt_of_le hgl5 x6.2.size
          have hv6 : w1.heap.size < x6.w.heap.size := Nat.lt_of_lt_of_le (Nat.lt_of_lt_of_le hvl hb5.size) x6.2.size
          obtain ⟨w6, hw6⟩ : ∃ w6, x6.w = w6 := ⟨_, rfl⟩
          have hB6b : Below wa.heap.size wa w6 := by rw [← hw6]; exact hB6
          rw [hw6] at t1 t2 t3 t4 hg6 hv6 ⊢
          clear hw6 hB6 o1 o2 c1 c2 c3 hinh m1 m2
          have hinh6 := last.On.inh w6.heap.size w6
          have s1 := last.On.cell t1 hg6
          have s2 := last.On.cell t2 hg6
          have s3 := last.On.cell t3 hv6
          have s4 := last.On.cell t4 hv6
          clear t1 t2 t3 t4
          go_wp2_with fail
          refine last.wp_region_on w6.heap.size (by kernel_rfl) (by kernel_rfl) ?_
          repeat (go_big_quiet_step ((fail)))
          refine wpQuiet_nil ?_
          intro w7 hw7
          obtain ⟨x7, hw7⟩ := hw7
          subst hw7
          have hB7 := hB6b.trans (x7.2.mono hB6b.size)
          go_wp2_with fail
          go_ret
          exact ⟨rfl, hB7⟩

set_option maxRecDepth 100000 in
theorem lifted (os : Os) (started : os.Started) (H : Type) (enc : TypeId × Value → H) :
    ReturnsInHanded {} Tryd.checked os 4 .any (fun w args => (Rows.fnPartedSpec.pre enc Tryd.prog Tryd.f4 [] false w args ∧ laidMetH Tryd.prog door.laidD w) ∧ sizedMet enc Tryd.prog Tryd.f4 (OpenSpec.ofChange Rows.fnPartedSpec) false w args)
      (Rows.fnPartedSpec.post enc Tryd.prog Tryd.f4 false true false false) := by
  refine returnsInHanded_of_change_and (C := Tryd.checked) (X := fun w _ => laidMetH Tryd.prog door.laidD w) (fun _ _ _ hh h => h.of_heap hh) door.own started (by kernel_rfl) Tryd.func4
    (ChangeSpec.witness_shaped (enc := enc) (C := Tryd.checked) (os := os) (X := fun w _ => laidMetH Tryd.prog door.laidD w) false (World.laidAll Tryd.prog os door.laidD) #[.slice none 0 0] 70 (World.laidAll_os _ _ _) (World.shaped_of_ZipB (by kernel_rfl) (by kernel_rfl)) (by kernel_rfl) (by kernel_rfl) (by kernel_rfl)
      (by rw [MakeChecks.laidMetH_plain _ _ _ (by kernel_rfl)]; exact laidMet_laidAll _ (by kernel_rfl) (by kernel_rfl))) ?_
  intro W base args ds gs before hval0 hW _ _ hL _
  have hval : ∀ (j : Nat) t v, Tryd.f4.params[j]? = some t → args[j]? = some v → Value.okWide Tryd.prog W .any base t v := hval0
  have hW' := hW
  obtain ⟨p, q, hA0, hV, rfl, hfz, hnd⟩ := hW
  have hA : DataW.TrodAll enc Tryd.prog W 0 (fun _ => true) true Tryd.f4.params.toList args.toList ds p := hA0
  rw [Tryd.params4] at hA hval
  obtain ⟨v0, vs0, d0, ds0, p0, q0, hargs, rfl, rfl, h0, r0⟩ := trodAll_cons hA
  obtain ⟨rfl, rfl, rfl⟩ := trodAll_nil r0
  obtain rfl : args = #[v0] := by cases args; simp_all
  obtain ⟨gv, tv, csv, fv, dv, pv, rfl, _, _, _, _, _⟩ := trodVars_one (show DataW.TrodVars enc Tryd.prog W (fun _ => true) ["loop.example/g00244/impl.roundWords"] gs q from hV)
  obtain ⟨a0, len0, cap0, rfl⟩ := okWide_slice Tryd.underlying22 (hval 0 22 v0 rfl rfl)
  have k0 := h0
  have lt0 : ∀ x ∈ p0, x.block < W.heap.size := by obtain ⟨m, hm⟩ := k0; exact DataW.trod_lt m _ _ _ hm
  obtain ⟨b0, w0⟩ : ∃ bs, Sl W a0 len0 bs := by
    obtain ⟨fuel, hf⟩ := h0
    rcases open_ints Tryd.underlying22 Tryd.underlying5 (by kernel_rfl) hf with ⟨hcs, _⟩ | ⟨x, l, c, zs, hcs, _, hl, hm, hz, _, hcell, hwz⟩
    · simp [Value.cells] at hcs
      obtain ⟨rfl, rfl, rfl⟩ := hcs
      exact ⟨[], sl_nil _ _⟩
    · simp [Value.cells] at hcs
      obtain ⟨rfl, rfl, rfl⟩ := hcs
      exact ⟨_, sl_of_ints hl hm (by simpa using hz) hcell hwz⟩
  clear hA0 hval0
  refine (walk a0 len0 cap0 b0 W w0 (door.words_of_laid hL)).mono fun e W' ⟨he, bel⟩ => ?_
  subst he
  exact ⟨_, rfl, _, _, _, [], _, _, hW', trodAll_mk1 (shut_bool Tryd.underlying4 _), (trodAll_cons_mk (Below.trod door.laidOut (by kernel_rfl) (of_decide_eq_true (by kernel_rfl)) k0 bel lt0) trodAll_mk0), bel.trodVars door.laidOut (by kernel_rfl) hV, bel.frame _, fun h => by cases h⟩

theorem over : Rows.fnPartedRow.holds Tryd.pinned (OpenSpec.ofChange Rows.fnPartedSpec) :=
  OpenClaim.holds_of_wide 4 Tryd.f4 rfl rfl rfl rfl rfl rfl rfl ⟨rfl, rfl, rfl, rfl, rfl⟩ rfl rfl rfl rfl rfl (by kernel_rfl) Tryd.func4 (by kernel_rfl)
    (of_decide_eq_true (by kernel_rfl)) (by unfold Func.isWrapper; first | (rw [if_pos (by decide +kernel)]; kernel_rfl) | (rw [if_neg (by decide +kernel)]; exact ⟨rfl, rfl⟩))
    (fun os started H enc _ => lifted os started H enc)

theorem proved : Rows.FnPartedCardSaid :=
  Claim7.holds_tied_plain_at .later [] [.data] true (true, "5cdd0034906363510551842fd72a75f8565cb97764f571c82cbad23a3f3328e0") false
    over (fun _ h => by cases h) (by kernel_rfl) (fun _ h => by cases h) fnParted_row_tie rfl ⟨rfl, rfl⟩ (by kernel_rfl) rfl
    (fun f fn hf hfn => by
      obtain rfl : f = 4 := Option.some.inj ((show Tryd.prog.funcNamed "loop.example/g00244/laws.FnParted" = some 4 by kernel_rfl).symm.trans hf) |>.symm
      obtain rfl : fn = Tryd.f4 := (Option.some.inj (Tryd.func4.symm.trans hfn)).symm
      exact ⟨by kernel_rfl, fun j t ht => by
        rw [Tryd.params4] at ht
        have hm : t ∈ [22] := by simpa using Array.mem_of_getElem? ht
        have hall : ([22].all fun u => !Tryd.prog.wantsStandIn u) = true := by kernel_rfl
        exact (show Tryd.prog.wantsStandIn t = false by simpa using List.all_eq_true.1 hall t hm)⟩)
    (by kernel_rfl)
end Go.Proofs.YtdebbgodhpcijaaDoor.fnParted
