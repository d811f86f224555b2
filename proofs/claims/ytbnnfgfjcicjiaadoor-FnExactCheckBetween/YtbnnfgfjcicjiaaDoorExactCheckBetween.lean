/- The statement FnExactCheckBetweenCardSaid: at every three texts and every proof FnExactCheckBetween answers true, and the arguments read afterwards as before, where the table of the rounds' words is as the program's text lays it (the card ties it). No condition besides the row's own. -/
import Derived.Test.YtbnnfgfjcicjiaaDoorRows
import Derived.Test.YtbnnfgfjcicjiaaDoorCards
import Derived.Test.YtbnnfgfjcicjiaaDoorTie
import Derived.Test.YtbnnfgfjcicjiaaDoorRangeX
import Derived.Test.YtbnnfgfjcicjiaaDoorRangeR
import Derived.Test.YtbnnfgfjcicjiaaDoorItemS
import Derived.Test.YtbnnfgfjcicjiaaDoorDoor
import Derived.ProofKit
import Derived.OpenShut
import Derived.ShutString
import Derived.ChangeOld
import Derived.Below
namespace Go.Proofs.YtbnnfgfjcicjiaaDoor.fnExactCheckBetween
open Go.ChangeShapes Go.WideShapes Go.ChangeAt Go.RowKit
open Go.ChangeMaps (open_string shut_string)
set_option linter.unusedVariables false
open Go.Proofs.YtbnnfgfjcicjiaaDoor.base Go.Proofs.YtbnnfgfjcicjiaaDoor.pairs Go.Proofs.YtbnnfgfjcicjiaaDoor.tree Go.Proofs.YtbnnfgfjcicjiaaDoor.range

theorem keep6 {w w' : World} {b c : Nat} {x y z x' y' z' : Value} (hb : Below w.heap.size w w') (h : w.cell? ⟨b, 0, none⟩ = some x ∧ w.cell? ⟨b, 1, none⟩ = some y ∧ w.cell? ⟨b, 2, none⟩ = some z ∧ w.cell? ⟨c, 0, none⟩ = some x' ∧ w.cell? ⟨c, 1, none⟩ = some y' ∧ w.cell? ⟨c, 2, none⟩ = some z') :
    w'.cell? ⟨b, 0, none⟩ = some x ∧ w'.cell? ⟨b, 1, none⟩ = some y ∧ w'.cell? ⟨b, 2, none⟩ = some z ∧ w'.cell? ⟨c, 0, none⟩ = some x' ∧ w'.cell? ⟨c, 1, none⟩ = some y' ∧ w'.cell? ⟨c, 2, none⟩ = some z' := by
  have k : ∀ {g o : Nat} {v : Value}, w.cell? ⟨g, o, none⟩ = some v → w'.cell? ⟨g, o, none⟩ = some v := fun {g o v} hv => (hb.cell (p := ⟨g, o, none⟩) (World.block_lt_of_cell? w _ hv)).trans hv
  exact ⟨k h.1, k h.2.1, k h.2.2.1, k h.2.2.2.1, k h.2.2.2.2.1, k h.2.2.2.2.2⟩

set_option maxRecDepth 100000 in
set_option maxHeartbeats 6000000 in
theorem walk (root lo hi : ByteArray) (n fr : Int) (a : Option Addr) (len cap : Nat) (l : List It) (w : World) (z0 : root.size ≤ maxLen) (z1 : lo.size ≤ maxLen) (z2 : hi.size ≤ maxLen) (hN : (Lit.int .i64 n).wf = true) (hF : (Lit.int .i64 fr).wf = true) (h : SlI w a len l) (hK : sha.KW w) :
    Calls Tryd.prog 5 #[.string root, .string lo, .string hi, .agg #[.int .i64 n, .int .i64 fr, .slice a len cap]] w fun e w' => e = .returned (.bool true) ∧ Below w.heap.size w w' := by
  have hlen := h.1
  obtain ⟨W, hW⟩ : ∃ W, w.alloc (.cells #[.int .i64 n, .int .i64 fr, .slice a len cap] 50) = W := ⟨_, rfl⟩
  have hBW : Below w.heap.size w W := by rw [← hW]; exact (Below.refl _ _).alloc (Nat.le_refl _) _
  have hV : V3 W w.heap.size 50 (.int .i64 n) (.int .i64 fr) (.slice a len cap) := by rw [← hW]; exact v3_new w _ _ _ _
  have HW := Hid.mk' hW
  by_cases hr : 1048576 < root.size
  · have hri : (1048576 : Int) < (root.size : Int) := by omega
    rw [← hW] at hBW
    clear hW hV HW
    go_enter Tryd.func5, Tryd.ntmps5
    go_wp2_with fail
    go_ret
    exact ⟨rfl, hBW⟩
  have hri : ¬ (1048576 : Int) < (root.size : Int) := by omega
  by_cases hlo : 1048576 < lo.size
  · have hloi : (1048576 : Int) < (lo.size : Int) := by omega
    rw [← hW] at hBW
    clear hW hV HW
    go_enter Tryd.func5, Tryd.ntmps5
    go_wp2_with fail
    go_ret
    exact ⟨rfl, hBW⟩
  have hloi : ¬ (1048576 : Int) < (lo.size : Int) := by omega
  by_cases hhi : 1048576 < hi.size
  · have hhii : (1048576 : Int) < (hi.size : Int) := by omega
    rw [← hW] at hBW
    clear hW hV HW
    go_enter Tryd.func5, Tryd.ntmps5
    go_wp2_with fail
    go_ret
    exact ⟨rfl, hBW⟩
  have hhii : ¬ (1048576 : Int) < (hi.size : Int) := by omega
  have hsz := szProof n fr a len cap l 1048576 W (h.below hBW) (by omega)
  clear hW
  by_cases hover : 1048576 < l.length + sumI l
  · rw [szR_neg hover] at hsz
    have HZ := Hid.mk' hsz
    clear hsz
    go_enter Tryd.func5, Tryd.ntmps5
    go_wp2_with fail
    rw [HW.out]
    refine HZ.out.mono ?_
    rintro e wa ⟨rfl, hB⟩
    have hB1 := hBW.trans (hB.mono hBW.size)
    go_wp2_with fail
    go_ret
    exact ⟨rfl, hB1⟩
  rw [szR_pos (by omega)] at hsz
  obtain ⟨r, hrr⟩ : ∃ r : Nat, ((1048576 : Nat) : Int) - ((l.length + sumI l : Nat) : Int) = (r : Int) := ⟨1048576 - (l.length + sumI l), by omega⟩
  rw [hrr] at hsz
  have HZ := Hid.mk' hsz
  clear hsz hrr
  have hlx : ∀ x ∈ l, limI x := fun x hx => by
    have h1 := isz_le l x hx
    unfold isz psz at h1
    exact ⟨⟨by omega, by omega⟩, fun s hs => by have := puttexts.size_le_sum x.2 s hs; omega⟩
  have hpx : ∀ x ∈ l, x.2.length ≤ 1099511627776 := fun x hx => by have h1 := isz_le l x hx; unfold isz at h1; omega
  have hcnt : cnt l ≤ 4194304 := by
    have key : ∀ (l : List It), cnt l ≤ 2 * l.length + sumI l := by
      intro l
      induction l with
      | nil => simp [cnt, sumI]
      | cons x l ih =>
        rw [cnt_cons, List.length_cons]
        have : sumI (x :: l) = isz x + sumI l := by simp [sumI]
        rw [this]; unfold isz; omega
    have := key l
    omega
  have HTP := Hid.mk' (fun wx (hx : Below w.heap.size w wx) => toProof n fr a len cap l wx (h.below hx) (by omega) hpx)
  have HSC := Hid.mk' (fun g c hs base wx (ho : OwnI wx base (.slice (some ⟨g, 0, none⟩) len c) l hs) => spec_checkBetween root lo hi n fr (some ⟨g, 0, none⟩) len c l wx (ho.slJ (by omega) hlx) hN hF)
  have HIC := Hid.mk' (fun g c hs base wx (ho : OwnI wx base (.slice (some ⟨g, 0, none⟩) len c) l hs) (hk : sha.KW wx) => impl_checkBetween root lo hi n fr (some ⟨g, 0, none⟩) len c l wx (ho.slJ (by omega) hlx) hN hF (by omega) (by omega) (by omega) hk)
  have HKW : Hid (∀ wx, Below w.heap.size w wx → sha.KW wx) := fun wx hx => hK.below hx
  have hrl : ∀ G, check root lo hi ⟨n, fr, l⟩ = some G → G.length ≤ 1048576 := by
    intro G hG
    unfold check at hG
    split at hG
    · split at hG
      · cases hG; simp
      · cases hG
    · split at hG
      · cases hG
      · split at hG
        · cases hG
        · split at hG
          · cases hG
          · cases hG
            have := between_le lo hi (keysOf l)
            simp [keysOf] at this
            simp [keysOf]; omega
  generalize check root lo hi ⟨n, fr, l⟩ = R at *
  obtain ⟨rows, hrows⟩ : ∃ rows, R.getD [] = rows := ⟨_, rfl⟩
  have hrl2 : rows.length ≤ 1048576 := by
    rw [← hrows]
    cases R with
    | none => simp
    | some G => exact hrl G rfl
  obtain ⟨ok, hok⟩ : ∃ ok, R.isSome = ok := ⟨_, rfl⟩
  have HRW := Hid.mk' hrows
  have HOK := Hid.mk' hok
  clear hrl hrows hok h hlx hpx z0 z1 z2
  have c0 := hV.c0
  have c1 := hV.c1
  have c2 := hV.c2
  cases ok
  all_goals
    go_enter Tryd.func5, Tryd.ntmps5
    go_wp2_with fail
    rw [HW.out]
    refine HZ.out.mono ?_
    rintro e wa ⟨rfl, hba⟩
    have hBa := hBW.trans (hba.mono hBW.size)
    have hVa := hV.below hba
    have d0 := hVa.c0
    have d1 := hVa.c1
    have d2 := hVa.c2
    have HVa := Hid.mk' hVa
    clear hba hVa c0 c1 c2 hBW hV HZ HW
    go_wp2_with fail
    refine (HTP.out _ hBa).mono ?_
    rintro e wb ⟨g1, hs1, rfl, hO1, hb1⟩
    have hBb := hBa.trans (hb1.mono hBa.size)
    have HVb := Hid.mk' (HVa.out.below hb1)
    have HO1 := Hid.mk' hO1
    clear hO1 hb1 HVa d0 d1 d2
    go_wp2_with fail
    refine (HSC.out _ _ _ _ _ HO1.out).mono ?_
    rintro e wc ⟨hbc, gw, lw, cw, rfl, hOw⟩
    rw [HRW.out] at hOw
    rw [HOK.out]
    have hBc := hBb.trans (hbc.mono hBb.size)
    have hVc := HVb.out.below hbc
    have d0 := hVc.c0
    have d1 := hVc.c1
    have d2 := hVc.c2
    have HVc := Hid.mk' hVc
    have HOW := Hid.mk' (hOw.mono (base' := w.heap.size) hBb.size)
    clear hOw hbc hVc HVb HO1 hBb
    go_wp2_with fail
    refine (HTP.out _ hBc).mono ?_
    rintro e wd ⟨g2, hs2, rfl, hO2, hb2⟩
    have hBd := hBc.trans (hb2.mono hBc.size)
    have hba : Below wd.heap.size wd (wd.alloc (.cells #[.int .i64 n, .int .i64 fr, .slice (some ⟨g2, 0, none⟩) len len] 29)) := (Below.refl _ _).alloc (Nat.le_refl _) _
    have hvx : V3 (wd.alloc (.cells #[.int .i64 n, .int .i64 fr, .slice (some ⟨g2, 0, none⟩) len len] 29)) wd.heap.size 29 (.int .i64 n) (.int .i64 fr) (.slice (some ⟨g2, 0, none⟩) len len) := v3_new wd _ _ _ _
    have hBe := hBd.trans (hba.mono hBd.size)
    have HOX := Hid.mk' (hO2.below hba)
    have HOW2 := Hid.mk' ((HOW.out.below hb2).below hba)
    have HBX := Hid.mk' ((HVc.out.below hb2).below hba)
    have HVX := Hid.mk' hvx
    have HLX : Hid (∀ k, Blk (.slice (some ⟨g2, 0, none⟩) len len) hs2 k → k < wd.heap.size) := fun k hk => (hO2.lt k hk).2
    have hs1a := HOW.out.lt.2
    have hs2a := HVc.out.lt
    have hs3a := hb2.size
    clear hO2 hb2 hBd hba hvx HOW HVc d0 d1 d2 hBc
    go_wp2_with fail
    refine (HIC.out _ _ _ _ _ HOX.out (HKW.out _ hBe)).mono ?_
    rintro e we ⟨hbg, gg, lg, cg, rfl, hOg⟩
    rw [HRW.out] at hOg
    rw [HOK.out]
    have T1 : PentR w we n fr l l rows rows a len cap gw lw cw g2 wc.heap.size wd.heap.size gg lg cg hs2 :=
      ⟨hBe.trans (hbg.mono hBe.size), HBX.out.below hbg, HOW2.out.below hbg, HOX.out.below hbg, HVX.out.below hbg, hOg.mono hBe.size, hs1a, hs2a, HLX.out, by have := hOg.lt.1; simp at this; omega, hs3a⟩
    have hlg : lg ≤ 1048576 := by have := hOg.1; omega
    clear hbg hOg HOX HOW2 HBX HVX HLX hs1a hs2a hs3a hBe
    have HT1 := Hid.mk' T1
    clear T1
    go_wp2_with fail
    refine (eqP _ _ _ _ _ _ _ _ _ HT1.out.g.sl HT1.out.s.sl rfl).mono ?_
    rintro e y2 ⟨rfl, hB⟩
    have T2 := HT1.out.below hB
    clear HT1 hB
    have HT2 := Hid.mk' T2
    clear T2
    obtain ⟨p0, p1, p2, q0, q1, q2⟩ := HT2.out.cells
    have hbl := HT2.out.bel
    have hdr : Below y2.heap.size y2 y2.drew := (Below.refl _ _).drew
    go_wp2_with fail
    go_region_held3 (fun w' => (w'.cell? ⟨wd.heap.size, 0, none⟩ = some (.int .i64 n) ∧ w'.cell? ⟨wd.heap.size, 1, none⟩ = some (.int .i64 fr) ∧ w'.cell? ⟨wd.heap.size, 2, none⟩ = some (.slice (some ⟨g2, 0, none⟩) len len) ∧ w'.cell? ⟨w.heap.size, 0, none⟩ = some (.int .i64 n) ∧ w'.cell? ⟨w.heap.size, 1, none⟩ = some (.int .i64 fr) ∧ w'.cell? ⟨w.heap.size, 2, none⟩ = some (.slice a len cap))) (first | (exact keep6 hb4 (by assumption)) | (exact keep6 hb3 (by assumption)) | (go_keep)) (first | (go_at_call 16; have h9 := hb3; refine (eqProofT n fr _ _ len _ _ l _ ((HT2.out.below (hdr.trans (hb3.mono hdr.size))).x.sl) HO3.out.sl).mono ?_; rintro e y4 ⟨rfl, hb4⟩) | (go_at_call 23; refine (HTP.out _ (hbl.trans (hdr.mono hbl.size))).mono ?_; rintro e y3 ⟨g3, hs3, rfl, hO3, hb3⟩; have HO3 := Hid.mk' hO3))
    have T4 := (HT2.out.below (hdr.trans (hb3.mono hdr.size))).below hb4
    clear HT2 hb3 hb4 HO3 hO3 hdr hbl
    clear p0 p1 p2 q0 q1 q2
    have HT4 := Hid.mk' T4
    clear T4
    obtain ⟨p0, p1, p2, q0, q1, q2⟩ := HT4.out.cells
    go_wp2_with fail
    refine (markProof1 n fr _ _ l hs2 _ HT4.out.x (by have := HT4.out.vx.lt; have := HT4.out.Bx; omega) (by omega) (by omega)).mono ?_
    rintro e y5 ⟨rfl, ho5, hk5⟩
    have T5 := HT4.out.markX ho5 hk5
    clear HT4 ho5 hk5
    clear p0 p1 p2 q0 q1 q2
    have HT5 := Hid.mk' T5
    clear T5
    go_wp2_with fail
    refine (eqP _ _ _ _ _ _ _ _ _ HT5.out.g.sl HT5.out.s.sl rfl).mono ?_
    rintro e y6 ⟨rfl, hB⟩
    have T6 := HT5.out.below hB
    clear HT5 hB
    have HT6 := Hid.mk' T6
    clear T6
    go_wp2_with fail
    refine (markP _ _ _ _ 1 _ _ HT6.out.g (by omega) (by omega) (by omega) _ (by show _ = _; rfl)).mono ?_
    rintro e y7 ⟨rfl, hx7, hg7⟩
    have T7 := HT6.out.markG hx7 hg7
    clear HT6 hx7 hg7
    have HT7 := Hid.mk' T7
    clear T7
    go_wp2_with fail
    refine (heldP _ _ _ _ HT7.out.g.sl (by omega)).mono ?_
    rintro e y8 ⟨rfl, hB⟩
    have T8 := HT7.out.below hB
    clear HT7 hB
    have HT8 := Hid.mk' T8
    clear T8
    obtain ⟨p0, p1, p2, q0, q1, q2⟩ := HT8.out.cells
    go_wp2_with fail
    refine (HTP.out _ HT8.out.bel).mono ?_
    rintro e y9 ⟨g9, hs9, rfl, hO9, hb9⟩
    have T9 := HT8.out.below hb9
    have HO9 := Hid.mk' hO9
    clear HT8 hb9 hO9
    clear p0 p1 p2 q0 q1 q2
    have HT9 := Hid.mk' T9
    clear T9
    go_wp2_with fail
    refine (HIC.out _ _ _ _ _ HO9.out (HKW.out _ HT9.out.bel)).mono ?_
    rintro e y10 ⟨hb10, gh, lh, ch, rfl, hOh⟩
    rw [HRW.out] at hOh
    rw [HOK.out]
    have T10 := HT9.out.below hb10
    have HOH := Hid.mk' hOh
    clear HT9 hb10 hOh HO9
    have HT10 := Hid.mk' T10
    clear T10
    go_wp2_with fail
    refine (eqP _ _ _ _ _ _ _ _ _ HOH.out.sl HT10.out.s.sl rfl).mono ?_
    rintro e y11 ⟨rfl, hB⟩
    have T11 := HT10.out.below hB
    clear HT10 hB HOH
    have HT11 := Hid.mk' T11
    clear T11
    go_wp2_with fail
    refine (heldP _ _ _ _ HT11.out.g.sl (by omega)).mono ?_
    rintro e y12 ⟨rfl, hB⟩
    have T12 := HT11.out.below hB
    clear HT11 hB
    go_wp2_with fail
    go_ret
    exact ⟨rfl, T12.bel⟩

set_option maxRecDepth 100000 in
theorem lifted (os : Os) (started : os.Started) (H : Type) (enc : TypeId × Value → H) :
    ReturnsInHanded {} Tryd.checked os 5 .any (fun w args => (Rows.fnExactCheckBetweenSpec.pre enc Tryd.prog Tryd.f5 [] false w args ∧ laidMetH Tryd.prog door.laidD w) ∧ sizedMet enc Tryd.prog Tryd.f5 (OpenSpec.ofChange Rows.fnExactCheckBetweenSpec) false w args)
      (Rows.fnExactCheckBetweenSpec.post enc Tryd.prog Tryd.f5 false true false false) := by
  refine returnsInHanded_of_change_and (C := Tryd.checked) (X := fun w _ => laidMetH Tryd.prog door.laidD w) (fun _ _ _ hh h => h.of_heap hh) door.own started (by kernel_rfl) Tryd.func5
    (ChangeSpec.witness_shaped (enc := enc) (C := Tryd.checked) (os := os) (X := fun w _ => laidMetH Tryd.prog door.laidD w) false (World.laidAll Tryd.prog os door.laidD) #[.string ByteArray.empty, .string ByteArray.empty, .string ByteArray.empty, .agg #[.int .i64 0, .int .i64 0, .slice none 0 0]] 70 (World.laidAll_os _ _ _) (World.shaped_of_ZipB (by kernel_rfl) (by kernel_rfl)) (by kernel_rfl) (by kernel_rfl) (by kernel_rfl)
      (by rw [MakeChecks.laidMetH_plain _ _ _ (by kernel_rfl)]; exact laidMet_laidAll _ (by kernel_rfl) (by kernel_rfl))) ?_
  intro W base args ds gs before hval0 hW _ _ hL _
  have hval : ∀ (j : Nat) t v, Tryd.f5.params[j]? = some t → args[j]? = some v → Value.okWide Tryd.prog W .any base t v := hval0
  have hW' := hW
  obtain ⟨p, q, hA0, hV, rfl, hfz, hnd⟩ := hW
  have hA : DataW.TrodAll enc Tryd.prog W 0 (fun _ => true) true Tryd.f5.params.toList args.toList ds p := hA0
  rw [Tryd.params5] at hA hval
  obtain ⟨v0, vs0, d0, ds0, p0, q0, hargs, rfl, rfl, h0, r0⟩ := trodAll_cons hA
  obtain ⟨v1, vs1, d1, ds1, p1, q1, rfl, rfl, rfl, h1, r1⟩ := trodAll_cons r0
  obtain ⟨v2, vs2, d2, ds2, p2, q2, rfl, rfl, rfl, h2, r2⟩ := trodAll_cons r1
  obtain ⟨v3, vs3, d3, ds3, p3, q3, rfl, rfl, rfl, h3, r3⟩ := trodAll_cons r2
  obtain ⟨rfl, rfl, rfl⟩ := trodAll_nil r3
  obtain rfl : args = #[v0, v1, v2, v3] := by cases args; simp_all
  obtain ⟨gv, tv, csv, fv, dv, pv, rfl, _, _, _, _, _⟩ := trodVars_one (show DataW.TrodVars enc Tryd.prog W (fun _ => true) ["loop.example/g00244/impl.roundWords"] gs q from hV)
  obtain ⟨a0, rfl, rfl, rfl, w0⟩ := open_string Tryd.underlying9 (hval 0 9 v0 rfl rfl) h0
  obtain ⟨a1, rfl, rfl, rfl, w1⟩ := open_string Tryd.underlying9 (hval 1 9 v1 rfl rfl) h1
  obtain ⟨a2, rfl, rfl, rfl, w2⟩ := open_string Tryd.underlying9 (hval 2 9 v2 rfl rfl) h2
  have k3 := h3
  have lt3 : ∀ x ∈ p3, x.block < W.heap.size := by obtain ⟨m, hm⟩ := k3; exact DataW.trod_lt m _ _ _ hm
  obtain ⟨n3, f3, a3, len3, cap3, b3, rfl, s3, t3, w3⟩ : ∃ (n fr : Int) (a : Option Addr) (len cap : Nat) (l : List It), v3 = .agg #[.int .i64 n, .int .i64 fr, .slice a len cap] ∧ (Lit.int .i64 n).wf = true ∧ (Lit.int .i64 fr).wf = true ∧ SlI W a len l := by obtain ⟨fuel, hf⟩ := h3; exact proof_arg 50 _ _ _ Tryd.underlying50 (by kernel_rfl) rfl rfl rfl rfl rfl rfl (by kernel_rfl) (by kernel_rfl) _ _ _ _ Tryd.underlying98 (by kernel_rfl) rfl rfl rfl rfl Tryd.underlying70 (by kernel_rfl) rfl rfl rfl rfl (by kernel_rfl) (by kernel_rfl) (hval 3 50 v3 rfl rfl) hf
  clear hA0 hval0
  refine (walk a0 a1 a2 n3 f3 a3 len3 cap3 b3 W w0 w1 w2 s3 t3 w3 (door.words_of_laid hL)).mono fun e W' ⟨he, bel⟩ => ?_
  subst he
  exact ⟨_, rfl, _, _, _, [], _, _, hW', trodAll_mk1 (shut_bool Tryd.underlying4 _), (trodAll_cons_mk (shut_string Tryd.underlying9 w0) (trodAll_cons_mk (shut_string Tryd.underlying9 w1) (trodAll_cons_mk (shut_string Tryd.underlying9 w2) (trodAll_cons_mk (Below.trod door.laidOut (by kernel_rfl) (of_decide_eq_true (by kernel_rfl)) k3 bel lt3) trodAll_mk0)))), bel.trodVars door.laidOut (by kernel_rfl) hV, bel.frame _, fun h => by cases h⟩

theorem over : Rows.fnExactCheckBetweenRow.holds Tryd.pinned (OpenSpec.ofChange Rows.fnExactCheckBetweenSpec) :=
  OpenClaim.holds_of_wide 5 Tryd.f5 rfl rfl rfl rfl rfl rfl rfl ⟨rfl, rfl, rfl, rfl, rfl⟩ rfl rfl rfl rfl rfl (by kernel_rfl) Tryd.func5 (by kernel_rfl)
    (of_decide_eq_true (by kernel_rfl)) (by unfold Func.isWrapper; first | (rw [if_pos (by decide +kernel)]; kernel_rfl) | (rw [if_neg (by decide +kernel)]; exact ⟨rfl, rfl⟩))
    (fun os started H enc _ => lifted os started H enc)

theorem proved : Rows.FnExactCheckBetweenCardSaid :=
  Claim7.holds_tied_plain_at .later [] [.data] true (true, "5ee2f7e397cb7f7d92f096e124c74496210dbfab494880374f6aebad26a915e6") false
    over (fun _ h => by cases h) (by kernel_rfl) (fun _ h => by cases h) fnExactCheckBetween_row_tie rfl ⟨rfl, rfl⟩ (by kernel_rfl) rfl
    (fun f fn hf hfn => by
      obtain rfl : f = 5 := Option.some.inj ((show Tryd.prog.funcNamed "loop.example/g00244/laws.FnExactCheckBetween" = some 5 by kernel_rfl).symm.trans hf) |>.symm
      obtain rfl : fn = Tryd.f5 := (Option.some.inj (Tryd.func5.symm.trans hfn)).symm
      exact ⟨by kernel_rfl, fun j t ht => by
        rw [Tryd.params5] at ht
        have hm : t ∈ [9, 9, 9, 50] := by simpa using Array.mem_of_getElem? ht
        have hall : ([9, 9, 9, 50].all fun u => !Tryd.prog.wantsStandIn u) = true := by kernel_rfl
        exact (show Tryd.prog.wantsStandIn t = false by simpa using List.all_eq_true.1 hall t hm)⟩)
    (by kernel_rfl)
end Go.Proofs.YtbnnfgfjcicjiaaDoor.fnExactCheckBetween
