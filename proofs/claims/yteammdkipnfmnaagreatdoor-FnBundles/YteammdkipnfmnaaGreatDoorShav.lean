/- A drawn bundle to be checked. The specification's check of a proof. -/
import Derived.Test.YteammdkipnfmnaaGreatDoorShau
import Derived.Test.YteammdkipnfmnaaGreatDoorShan
import Derived.Test.YteammdkipnfmnaaGreatDoorShaj
import Derived.Test.YteammdkipnfmnaaGreatDoorShai
namespace Go.Proofs.YteammdkipnfmnaaGreatDoor.bun
open Go Go.RowKit Go.Proofs.YteammdkipnfmnaaGreatDoor.base Go.Proofs.YteammdkipnfmnaaGreatDoor.pairs Go.Proofs.YteammdkipnfmnaaGreatDoor.tree Go.Proofs.YteammdkipnfmnaaGreatDoor.lay Go.Proofs.YteammdkipnfmnaaGreatDoor.range Go.Proofs.YteammdkipnfmnaaGreatDoor.seals Go.Proofs.YteammdkipnfmnaaGreatDoor.tabs Go.Proofs.YteammdkipnfmnaaGreatDoor.draw
set_option linter.unusedVariables false
set_option linter.unusedSimpArgs false

theorem GotCB.drew {w w' : World} {e : Ending} (h : GotCB w e w') : GotCB w e w'.drew := by
  obtain ⟨su, lo, hi, no, pv, ra, rn, rc, pa, pn, pc, e, h1, h2, h3, h4, h5, h6, h7, h8, h9, h10, h11, h12⟩ := h
  have hd : Below w'.heap.size w' w'.drew := (Below.refl _ _).drew
  exact ⟨su, lo, hi, no, pv, ra, rn, rc, pa, pn, pc, e, h1, h2, h3, h4, h5, h6.below hd, h7, h8, h9.below hd, h10, h11, h12.drew⟩
theorem d_once9 (w0 w : World) (gc : Nat) (a : Option Addr) (len cap : Nat) (code : List UInt8) (n : Int) (h : Cur w0 w gc a len cap code) (hn : 0 < n) (hn2 : n ≤ 1000000000) :
    Calls Tryz.prog 21 #[.pointer (some ⟨gc, 0, none⟩), .int .i64 n] w fun e w' => ∃ b : Bool, e = .returned (.bool b) ∧ Cur w0 w' gc a len cap code ∧ w.grownBy w' (some gc) := pairs.d_once w0 w gc a len cap code n h hn hn2
set_option maxRecDepth 100000 in
set_option maxHeartbeats 16000000 in
theorem drawCheckBundle (a : Option Addr) (len cap : Nat) (code : List UInt8) (w : World) (h : Sl w a len code) (hln : len ≤ 1099511627776) :
    Calls Tryz.prog 6 #[.slice a len cap] w fun e w' => GotCB w e w' := by
  obtain ⟨wr, hwr⟩ : ∃ wr, w.alloc (.cells #[.int .i64 0, .string ⟨#[]⟩, .slice none 0 0, .slice none 0 0] 27) = wr := ⟨_, rfl⟩
  have hBr : Below w.heap.size w wr := by rw [← hwr]; exact below_make
  have hsr : wr.heap.size = w.heap.size + 1 := by rw [← hwr]; simp
  have hRr : BoxIn w.heap.size 27 [] [.int .i64 0, .string ⟨#[]⟩, .slice none 0 0, .slice none 0 0] [] wr := by rw [← hwr]; exact boxIn_new w _ _
  go_enter Tryz.func6, Tryz.ntmps6
  go_wp2_with (at_builtin; fail)
  (try rw [hwr])
  clear hwr
  refine (new_ w wr a len cap code h hBr hln).mono ?_
  rintro e w1 ⟨rfl, hC1, hB1⟩
  rw [hsr] at hC1 ⊢
  have hR1 := hRr.below hB1
  have hl1 := hC1.lt
  clear hRr hB1 hBr hsr
  go_wp2_with (at_builtin; fail)
  refine (d_tables w _ _ a len cap code hC1).mono ?_
  rintro e w2 ⟨x, ra, rn, rc, FR, ta, tn, tc, FT, ts, rfl, hRo, hFR, hTo, hFT, hx1, hx2, hx3, hx4, hx5, hts, hC2, hG2⟩
  have hR2 := hR1.grown hG2 (fun e => by have := Option.some.inj e; omega)
  have hl2 := hC2.lt
  obtain ⟨w3, hw3⟩ : ∃ V, w2.alloc (.cells #[.int .i64 x.1, .string x.2.1, .string x.2.2.1, .slice ra rn rc] 49) = V := ⟨_, rfl⟩
  have hb3 : Below w2.heap.size w2 w3 := by rw [← hw3]; exact below_make
  have hS3 : BoxIn w2.heap.size 49 [] [.int .i64 x.1, .string x.2.1, .string x.2.2.1, .slice ra rn rc] [] w3 := by rw [← hw3]; exact boxIn_new w2 _ _
  have hC3 := hC2.below hb3
  have hR3 := hR2.below hb3
  have hRo3 := textsR.ownBelow hRo hb3
  have hTo3 := tablesN.ownBelow hTo hb3
  have HW3 := Hid.mk' hw3
  clear hw3 hR1 hC1 hC2 hR2 hRo hTo hG2 hb3
  go_wp2_with (at_builtin; fail)
  rw [HW3.out]
  clear HW3
  refine (d_ends w _ _ a len cap code hC3).mono ?_
  rintro e w4 ⟨lo, hi, hlo, hhi, rfl, hC4, hG4⟩
  have hS4 := hS3.grown hG4 (fun e => by have := Option.some.inj e; omega)
  have hR4 := hR3.grown hG4 (fun e => by have := Option.some.inj e; omega)
  have hRo4 := textsR.ownGrown hRo3 hG4 (fun k hk e => by have := Option.some.inj e; have := hFR k hk; omega)
  have hTo4 := tablesN.ownGrown hTo3 hG4 (fun k hk e => by have := Option.some.inj e; have := hFT k hk; omega)
  have hsl := texts_see.1 (textsR.ownSee hRo4)
  have hrn : rn ≤ 3 := by have := hsl.1.1; omega
  have HMB := Hid.mk' (spec_makeBundle lo hi ra rn rc x ta tn tc ts w4 (WalkArith.wf_i64 (by omega)) (by unfold maxLen; omega) hsl.1 hsl.2 (by omega) (tn_own hTo4) (fun t ht p hp => by have := (hts t ht).2 p hp; exact ⟨Nat.le_trans this.1 (by omega), Nat.le_trans this.2 (by omega)⟩))
  have hsm := makeB_small lo hi x ts hx1 hx2 hx4 hx5 hts
  obtain ⟨z0, z1, z2, z3⟩ := box4d hS4
  have hSl := hS4.lt
  have hRl := hR4.lt
  clear hRo4 hTo4 hsl hRo3 hTo3 hS3 hR3 hC3 hG4 hts
  generalize makeB lo hi x ts = y at *
  go_wp2_with (at_builtin; fail)
  refine HMB.out.mono ?_
  rintro e w5 ⟨vs, F, rfl, hO5, hF5, hb5⟩
  obtain ⟨va, vn, vc, pa, pn, pc, rfl⟩ := bundle_shape hO5
  have hsee := see_bu (bundleR.ownSee hO5)
  obtain ⟨v1, v2, F1, F2, e5, _, _, _, _, hPr5, _⟩ := bundle_own.1 hO5
  simp only [List.cons.injEq, and_true, true_and] at e5
  obtain ⟨rfl, rfl⟩ := e5
  obtain ⟨vp, qp, ep, _, hOp⟩ := hPr5
  simp only [List.cons.injEq, and_true] at ep
  subst ep
  have hPJ5 := pj_own (v := .slice none 0 0) hOp (fun f hf => ⟨by have := (hsm.2.2.2.2 f hf).2.2.1; omega, fun i hi => ((hsm.2.2.2.2 f hf).2.2.2 i hi).tiny.lim⟩)
  have hR5 := hR4.below hb5
  have hS5 := hS4.below hb5
  have hC5 := hC4.below hb5
  obtain ⟨w6, hw6⟩ : ∃ V, w5.alloc (.cells #[.int .i64 y.1, .string y.2.1, .slice va vn vc, .slice pa pn pc] 27) = V := ⟨_, rfl⟩
  have hb6 : Below w5.heap.size w5 w6 := by rw [← hw6]; exact below_make
  have hB6 : BoxIn w5.heap.size 27 [] [.int .i64 y.1, .string y.2.1, .slice va vn vc, .slice pa pn pc] [] w6 := by rw [← hw6]; exact boxIn_new w5 _ _
  have hSL6 := hsee.roots.below hb6
  have hPJ6 := hPJ5.below hb6
  have hvc := hsee.rc
  have hpc := hsee.pc
  have hC6 := hC5.below hb6
  have hR6 := hR5.below hb6
  have hS6 := hS5.below hb6
  have hb5s := hb5.size
  have hvn : vn ≤ 8 := by have := hSL6.1; have := hsm.2.2.1.1; omega
  have hpn : pn ≤ 8 := by have := hPJ6.1; have := hsm.2.2.2.1; omega
  have HW6 := Hid.mk' hw6
  clear hw6 hO5 hsee hOp hPJ5 hR5 hS5 hC5 hb6 hR4 hS4 hC4 HMB z0 z1 z2 z3 hb5
  go_wp2_with (at_builtin; fail)
  rw [HW6.out]
  clear HW6
  refine (d_once9 w _ _ a len cap code _ hC6 (by omega) (by omega)).mono ?_
  rintro e w7 ⟨b7, rfl, hC7, hG7⟩
  have hl7 := hC7.lt
  have hSL7 := sls_gc hSL6 (cur_noStr hC6) hG7
  have hPJ7 := pj_gc hPJ6 hC6 hG7
  have hsu := hx3
  have hD7 : DSt w w7 (w.heap.size + 1) a len cap code w2.heap.size w.heap.size w5.heap.size x.2.2.1 y.1 y.2.1 va vn vc pa pn pc :=
    ⟨hC7, ⟨_, _, _, hS6.grown hG7 (fun e => by have := Option.some.inj e; omega)⟩, hR6.grown hG7 (fun e => by have := Option.some.inj e; omega), hB6.grown hG7 (fun e => by have := Option.some.inj e; omega), ⟨_, hSL7, hsm.2.2.1.2⟩, fj_pjw hPJ7 hsm.2.2.2.2, by omega, ⟨⟨hsm.1.1, by have := hsm.1.2; omega⟩, hsm.2.1, ⟨by omega, hvc⟩, by omega, hpc⟩⟩
  generalize x.2.2.1 = su at *
  clear hC6 hG7 hSL6 hPJ6 hS6 hR6 hB6
  cases b7 with
  | true =>
    obtain ⟨y0, y1, y2, y3⟩ := box4d hD7.box
    have HBE := Hid.mk' (d_bendB w w7 (w.heap.size + 1) a len cap code hC7 y.1 y.2.1 va vn vc pa pn pc y.2.2.1 y.2.2.2 hsm.1 hsm.2.1 hSL7 hvc hvn hsm.2.2.1.2 hPJ7 hpn hsm.2.2.2.2)
    have HD7 := Hid.mk' hD7
    clear hD7 hC7 hSL7 hPJ7 hsm
    go_wp2_with (at_builtin; fail)
    refine HBE.out.mono ?_
    rintro e w8 ⟨no, pv, ra2, rn2, rc2, pa2, pn2, pc2, rfl, hno, hpv, hrj, hrn2, hrc2, hfj, hpn2, hpc2, hC8, hG8⟩
    have hD8 := HD7.out.drawn hC8 hG8
    have f0 := hD8.box.fz 0
    have f1 := hD8.box.fz 1
    have f2 := hD8.box.fz 2
    have f3 := hD8.box.fz 3
    have hP := hD8.put (no' := no) (pv' := pv) (rc' := rc2) (pc' := pc2) hrj hfj ⟨hno, hpv, ⟨hrn2, hrc2⟩, hpn2, hpc2⟩
    obtain ⟨x0, x1, x2, x3⟩ := box4d hD8.box
    obtain ⟨w9, hw9⟩ : ∃ V, putAll w8 w5.heap.size 0 [.int .i64 no, .string pv, .slice ra2 rn2 rc2, .slice pa2 pn2 pc2] = V := ⟨_, rfl⟩
    rw [hw9] at hP
    simp only [putAll, Nat.zero_add, Nat.reduceAdd] at hw9
    have HW9 := Hid.mk' hw9
    have hD6 := hP
    clear hw9 hP hD8 HD7 HBE hC8 hG8 hrj hfj y0 y1 y2 y3
    go_wp2_with (at_builtin; fail)
    rw [HW9.out]
    clear HW9 x0 x1 x2 x3 f0 f1 f2 f3
    refine (d_once9 w _ _ a len cap code _ hD6.cur (by omega) (by omega)).mono ?_
    rintro e w9 ⟨b9, rfl, hC9, hG9⟩
    have hD9 := hD6.drawn hC9 hG9
    clear hC9 hG9 hD6
    cases b9 with
    | true =>
      go_wp2_with (at_builtin; fail)
      refine (d_ends w _ _ a len cap code hD9.cur).mono ?_
      rintro e w10 ⟨lo2, hi2, hlo2, hhi2, rfl, hC10, hG10⟩
      have hD := hD9.drawn hC10 hG10
      clear hC10 hG10 hD9
      obtain ⟨y0, y1, y2, y3⟩ := box4d hD.box
      obtain ⟨sv0, sv1, sv3, hsb⟩ := hD.sup
      obtain ⟨s0, s1, s2, s3⟩ := box4d hsb
      obtain ⟨r0, r1, r2, r3⟩ := box4d hD.ret
      have k0 := hD.ret.fz 0
      have k1 := hD.ret.fz 1
      have k2 := hD.ret.fz 2
      have k3 := hD.ret.fz 3
      have hE := hD.done hsu hlo2 hhi2
      obtain ⟨u0, u1, u2, u3⟩ := box4d hE.1
      simp only [putAll, Nat.zero_add, Nat.reduceAdd] at u0 u1 u2 u3
      have HE := Hid.mk' hE.2
      simp only [putAll, Nat.zero_add, Nat.reduceAdd] at HE
      clear hE hD hsb
      go_wp2_with (at_builtin; fail)
      go_region
      all_goals
        go_wp2_with (at_builtin; fail)
        refine bodyPost_ret (v := .tuple #[.string su, .string lo2, .string hi2, .agg #[.int .i64 no, .string pv, .slice ra2 rn2 rc2, .slice pa2 pn2 pc2]]) ?_ rfl HE.out.drew
        simp [results, Tryz.results6, go_sem, u0, u1, u2, u3]
    | false =>
      have hD := hD9
      clear hD9
      obtain ⟨y0, y1, y2, y3⟩ := box4d hD.box
      obtain ⟨sv0, sv1, sv3, hsb⟩ := hD.sup
      obtain ⟨s0, s1, s2, s3⟩ := box4d hsb
      obtain ⟨r0, r1, r2, r3⟩ := box4d hD.ret
      have k0 := hD.ret.fz 0
      have k1 := hD.ret.fz 1
      have k2 := hD.ret.fz 2
      have k3 := hD.ret.fz 3
      have hE := hD.done hsu hlo hhi
      obtain ⟨u0, u1, u2, u3⟩ := box4d hE.1
      simp only [putAll, Nat.zero_add, Nat.reduceAdd] at u0 u1 u2 u3
      have HE := Hid.mk' hE.2
      simp only [putAll, Nat.zero_add, Nat.reduceAdd] at HE
      clear hE hD hsb
      go_wp2_with (at_builtin; fail)
      go_region
      all_goals
        go_wp2_with (at_builtin; fail)
        refine bodyPost_ret (v := .tuple #[.string su, .string lo, .string hi, .agg #[.int .i64 no, .string pv, .slice ra2 rn2 rc2, .slice pa2 pn2 pc2]]) ?_ rfl HE.out.drew
        simp [results, Tryz.results6, go_sem, u0, u1, u2, u3]
  | false =>
    have hD6 := hD7
    clear hD7 hC7 hSL7 hPJ7 hsm
    go_wp2_with (at_builtin; fail)
    refine (d_once9 w _ _ a len cap code _ hD6.cur (by omega) (by omega)).mono ?_
    rintro e w9 ⟨b9, rfl, hC9, hG9⟩
    have hD9 := hD6.drawn hC9 hG9
    clear hC9 hG9 hD6
    cases b9 with
    | true =>
      go_wp2_with (at_builtin; fail)
      refine (d_ends w _ _ a len cap code hD9.cur).mono ?_
      rintro e w10 ⟨lo2, hi2, hlo2, hhi2, rfl, hC10, hG10⟩
      have hD := hD9.drawn hC10 hG10
      clear hC10 hG10 hD9
      obtain ⟨y0, y1, y2, y3⟩ := box4d hD.box
      obtain ⟨sv0, sv1, sv3, hsb⟩ := hD.sup
      obtain ⟨s0, s1, s2, s3⟩ := box4d hsb
      obtain ⟨r0, r1, r2, r3⟩ := box4d hD.ret
      have k0 := hD.ret.fz 0
      have k1 := hD.ret.fz 1
      have k2 := hD.ret.fz 2
      have k3 := hD.ret.fz 3
      have hE := hD.done hsu hlo2 hhi2
      obtain ⟨u0, u1, u2, u3⟩ := box4d hE.1
      simp only [putAll, Nat.zero_add, Nat.reduceAdd] at u0 u1 u2 u3
      have HE := Hid.mk' hE.2
      simp only [putAll, Nat.zero_add, Nat.reduceAdd] at HE
      clear hE hD hsb
      go_wp2_with (at_builtin; fail)
      go_region
      all_goals
        go_wp2_with (at_builtin; fail)
        refine bodyPost_ret (v := .tuple #[.string su, .string lo2, .string hi2, .agg #[.int .i64 y.1, .string y.2.1, .slice va vn vc, .slice pa pn pc]]) ?_ rfl HE.out.drew
        simp [results, Tryz.results6, go_sem, u0, u1, u2, u3]
    | false =>
      have hD := hD9
      clear hD9
      obtain ⟨y0, y1, y2, y3⟩ := box4d hD.box
      obtain ⟨sv0, sv1, sv3, hsb⟩ := hD.sup
      obtain ⟨s0, s1, s2, s3⟩ := box4d hsb
      obtain ⟨r0, r1, r2, r3⟩ := box4d hD.ret
      have k0 := hD.ret.fz 0
      have k1 := hD.ret.fz 1
      have k2 := hD.ret.fz 2
      have k3 := hD.ret.fz 3
      have hE := hD.done hsu hlo hhi
      obtain ⟨u0, u1, u2, u3⟩ := box4d hE.1
      simp only [putAll, Nat.zero_add, Nat.reduceAdd] at u0 u1 u2 u3
      have HE := Hid.mk' hE.2
      simp only [putAll, Nat.zero_add, Nat.reduceAdd] at HE
      clear hE hD hsb
      go_wp2_with (at_builtin; fail)
      go_region
      all_goals
        go_wp2_with (at_builtin; fail)
        refine bodyPost_ret (v := .tuple #[.string su, .string lo, .string hi, .agg #[.int .i64 y.1, .string y.2.1, .slice va vn vc, .slice pa pn pc]]) ?_ rfl HE.out.drew
        simp [results, Tryz.results6, go_sem, u0, u1, u2, u3]
end Go.Proofs.YteammdkipnfmnaaGreatDoor.bun

namespace Go.Proofs.YteammdkipnfmnaaGreatDoor.range
open Go Go.RowKit Go.Proofs.YteammdkipnfmnaaGreatDoor.base Go.Proofs.YteammdkipnfmnaaGreatDoor.pairs Go.Proofs.YteammdkipnfmnaaGreatDoor.tree
set_option linter.unusedVariables false
set_option linter.unusedSimpArgs false

def CPost (w : World) (r : Option (List Pr)) (e : Ending) (w' : World) : Prop :=
  Below w.heap.size w w' ∧ ∃ g n c, e = .returned (.tuple #[.slice (some ⟨g, 0, none⟩) n c, .bool r.isSome]) ∧ OwnP w' w.heap.size g n c (r.getD [])
theorem keys_take {l : List It} {k : Nat} (h : k < l.length) : keysOf (l.take (k + 1)) = keysOf (l.take k) ++ [l[k].1] := by
  unfold keysOf; rw [List.take_succ_eq_append_getElem h, List.map_append]; rfl
theorem between_snoc (lo hi : ByteArray) (l : List Pr) (p : Pr) : between lo hi (l ++ [p]) = between lo hi l ++ (if inB lo hi p.1 = true then [p] else []) := by
  unfold between; rw [List.filter_append]; congr 1
  by_cases h : inB lo hi p.1 = true
  · rw [if_pos h]; simp [h]
  · rw [if_neg h]; simp [h]
theorem between_le (lo hi : ByteArray) (l : List Pr) : (between lo hi l).length ≤ l.length := List.length_filter_le _ _
theorem str_ne' {a b : ByteArray} (h : a ≠ b) : (a.toList == b.toList) = false := by
  rw [beq_eq_false_iff_ne]; intro e; rw [ByteArray.toList_eq, ByteArray.toList_eq] at e; exact h (bytes_ext e)

set_option maxRecDepth 100000 in
set_option maxHeartbeats 2000000 in
theorem spec_checkZero (root lo hi : ByteArray) (fr : Int) (a : Option Addr) (len cap : Nat) (l : List It) (w : World) (hlen : l.length = len) (hll : len ≤ 1099511627776) :
    Calls Tryz.prog 31 #[.string root, .string lo, .string hi, .agg #[.int .i64 0, .int .i64 fr, .slice a len cap]] w (CPost w (check root lo hi ⟨0, fr, l⟩)) := by
  obtain ⟨W, hW⟩ : ∃ W, (w.alloc (.cells #[.int .i64 0, .int .i64 fr, .slice a len cap] 64)).alloc (.cells #[] 34) = W := ⟨_, rfl⟩
  have hB0 : Below w.heap.size w (w.alloc (.cells #[.int .i64 0, .int .i64 fr, .slice a len cap] 64)) := (Below.refl _ _).alloc (Nat.le_refl _) _
  have hB : Below w.heap.size w W := by rw [← hW]; exact hB0.alloc hB0.size _
  have hO : OwnP W w.heap.size (w.heap.size + 1) 0 0 [] := by
    have := ownP_made (w.alloc (.cells #[.int .i64 0, .int .i64 fr, .slice a len cap] 64)) w.heap.size hB0.size
    rw [← hW]; simpa using this
  have HR := Hid.mk' (spec_l4Root [] (w.heap.size + 1) 0 0 W hO.sl (Nat.le_refl _) (by simp) (fun p hp => absurd hp List.not_mem_nil))
  have HW := Hid.mk' hW
  have HO := Hid.mk' hO
  have hck : check root lo hi ⟨0, fr, l⟩ = if l = [] ∧ fr = 0 ∧ root = rootOf [] then some [] else none := by unfold check; rw [if_pos rfl]
  clear hW hO hB0
  by_cases hl0 : len = 0
  · subst hl0
    have hl : l = [] := List.eq_nil_of_length_eq_zero hlen
    subst hl
    by_cases hf : fr = 0
    · subst hf
      by_cases hr : root = rootOf []
      · have HC : Hid (check root lo hi ⟨0, 0, []⟩ = some []) := by show _ = _; rw [hck, if_pos ⟨rfl, rfl, hr⟩]
        clear hck
        rw [HC.out]
        generalize rootOf [] = R at *
        subst hr
        go_enter Tryz.func31, Tryz.ntmps31
        go_wp2_with fail
        rw [HW.out]
        refine HR.out.mono ?_
        rintro e w1 ⟨rfl, hb1⟩
        have hB1 := hB.trans (hb1.mono hB.size)
        have HO1 := Hid.mk' (HO.out.below hb1)
        clear HW HR HO hb1
        go_wp2_with fail
        go_ret2
        exact ⟨hB1, _, _, _, by simp, HO1.out⟩
      · have HC : Hid (check root lo hi ⟨0, 0, []⟩ = none) := by show _ = _; rw [hck, if_neg (fun h => hr h.2.2)]
        have hq := str_ne' hr
        clear hck
        rw [HC.out]
        generalize rootOf [] = R at *
        clear hr
        go_enter Tryz.func31, Tryz.ntmps31
        go_wp2_with fail
        rw [HW.out]
        refine HR.out.mono ?_
        rintro e w1 ⟨rfl, hb1⟩
        have hB1 := hB.trans (hb1.mono hB.size)
        have HO1 := Hid.mk' (HO.out.below hb1)
        clear HW HR HO hb1
        go_wp2_with fail
        go_ret2
        exact ⟨hB1, _, _, _, by simp, HO1.out⟩
    · have HC : Hid (check root lo hi ⟨0, fr, []⟩ = none) := by show _ = _; rw [hck, if_neg (fun h => hf h.2.1)]
      have hq : (fr == 0) = false := by simpa using hf
      clear hck HR
      rw [HC.out]
      go_enter Tryz.func31, Tryz.ntmps31
      go_wp2_with fail
      rw [HW.out]
      go_ret2
      exact ⟨hB, _, _, _, by simp, HO.out⟩
  · have HC : Hid (check root lo hi ⟨0, fr, l⟩ = none) := by show _ = _; rw [hck, if_neg (fun h => hl0 (by rw [← hlen, h.1]; rfl))]
    have hq : ((len : Int) == 0) = false := by simp; omega
    have hq2 : ¬ (len : Int) = 0 := by omega
    clear hck HR
    rw [HC.out]
    go_enter Tryz.func31, Tryz.ntmps31
    go_wp2_with fail
    rw [HW.out]
    go_ret2
    exact ⟨hB, _, _, _, by simp, HO.out⟩
set_option maxRecDepth 100000 in
set_option maxHeartbeats 6000000 in
theorem spec_checkBetween (root lo hi : ByteArray) (n fr : Int) (a : Option Addr) (len cap : Nat) (l : List It) (w : World) (h : SlJ w a len l) (hnw : (Lit.int .i64 n).wf = true) (hfw : (Lit.int .i64 fr).wf = true) :
    Calls Tryz.prog 31 #[.string root, .string lo, .string hi, .agg #[.int .i64 n, .int .i64 fr, .slice a len cap]] w (CPost w (check root lo hi ⟨n, fr, l⟩)) := by
  have hlen := h.1
  have hll := h.2.1
  by_cases hn0 : n = 0
  · subst hn0
    exact spec_checkZero root lo hi fr a len cap l w hlen hll
  have hnb : -9223372036854775808 ≤ n ∧ n ≤ 9223372036854775807 := by simpa [Lit.wf, IntKind.min, IntKind.max, IntKind.signed, IntKind.bits] using hnw
  obtain ⟨i0, hif, hz0, hz1, hz2⟩ := info_parts infoP
  obtain ⟨W, hW⟩ : ∃ W, (w.alloc (.cells #[.int .i64 n, .int .i64 fr, .slice a len cap] 64)).alloc (.cells #[] 34) = W := ⟨_, rfl⟩
  have hB0 : Below w.heap.size w (w.alloc (.cells #[.int .i64 n, .int .i64 fr, .slice a len cap] 64)) := (Below.refl _ _).alloc (Nat.le_refl _) _
  have hBW : Below w.heap.size w W := by rw [← hW]; exact hB0.alloc hB0.size _
  have hsW : W.heap.size = w.heap.size + 2 := by rw [← hW]; simp
  have hN0 : OwnP W w.heap.size (w.heap.size + 1) 0 0 [] := by
    have := ownP_made (w.alloc (.cells #[.int .i64 n, .int .i64 fr, .slice a len cap] 64)) w.heap.size hB0.size
    rw [← hW]; simpa using this
  have hV0 : V3 W w.heap.size 64 (.int .i64 n) (.int .i64 fr) (.slice a len cap) := by
    have h0 : V3 (w.alloc (.cells #[.int .i64 n, .int .i64 fr, .slice a len cap] 64)) w.heap.size 64 (.int .i64 n) (.int .i64 fr) (.slice a len cap) := heap_alloc_new w _
    rw [← hW]; exact h0.below ((Below.refl _ _).alloc (Nat.le_refl _) _)
  have HW := Hid.mk' hW
  have hnq : (n == 0) = false := by simpa using hn0
  have hin1 := fun wx => s_inI n 1 60 wx
  have hin2 := fun wx => s_inI fr 0 (n - 1) wx
  have a0 := hV0.c0
  have a1 := hV0.c1
  have a2 := hV0.c2
  clear hW hB0
  by_cases hn1 : 1 ≤ n ∧ n ≤ 60
  · rw [decide_eq_true hn1] at hin1
    have HI1 := Hid.mk' hin1
    by_cases hl0 : len = 0
    · have hlnil : l = [] := List.eq_nil_of_length_eq_zero (by omega)
      have HC : Hid (check root lo hi ⟨n, fr, l⟩ = none) := by show _ = _; unfold check; rw [if_neg hn0, if_pos (.inr (.inl hlnil))]
      subst hl0
      rw [HC.out]
      clear HC hin1 hin2
      go_enter Tryz.func31, Tryz.ntmps31
      go_wp2_with fail
      rw [HW.out]
      refine (HI1.out _).mono ?_
      rintro e w1 ⟨rfl, hw1⟩
      subst hw1
      go_wp2_with fail
      go_ret2
      exact ⟨hBW, _, _, _, by simp, hN0⟩
    have hlq : ((len : Int) == 0) = false := by simp; omega
    have hlq2 : ¬ (len : Int) = 0 := by omega
    by_cases hf1 : 0 ≤ fr ∧ fr ≤ n - 1
    · rw [decide_eq_true hf1] at hin2
      have HI2 := Hid.mk' hin2
      obtain ⟨b, off, ha⟩ : ∃ b off, a = some ⟨b, off, none⟩ := by
        obtain ⟨b, off, ha, _⟩ := h.2.2.2 (by omega)
        exact ⟨b, off, ha⟩
      subst ha
      have hlne : ¬ l = [] := fun e => hl0 (by rw [← hlen, e]; rfl)
      subst hlen
      have HS := Hid.mk' h
      have hsm := h.2.2.1
      have hO0 : OwnP (W.alloc (.cells #[] 34)) (w.heap.size + 2) W.heap.size 0 0 [] := ownP_made W (w.heap.size + 2) (by omega)
      have hBa : Below W.heap.size W (W.alloc (.cells #[] 34)) := (Below.refl _ _).alloc (Nat.le_refl _) _
      have hB2 := hBW.trans (hBa.mono hBW.size)
      have hN2 := hN0.below hBa
      have hV2 := hV0.below hBa
      clear hin1 hin2 h hN0 hV0 hBW
      go_enter Tryz.func31, Tryz.ntmps31
      go_wp2_with fail
      rw [HW.out]
      refine (HI1.out _).mono ?_
      rintro e w1 ⟨rfl, hw1⟩
      subst hw1
      go_wp2_with fail
      refine (HI2.out _).mono ?_
      rintro e w1 ⟨rfl, hw1⟩
      subst hw1
      clear HI1 HI2 a0 a1 a2 HW hBa
      go_wp2_with (at_builtin; fail)
      go_loopw [12, 13] (fun ov kv wr => ∃ k g m c : Nat, ov = .slice (some ⟨g, 0, none⟩) m c ∧ kv = .int .i64 (k : Int) ∧ k ≤ l.length ∧ (∀ j, j < k → itemOkAt root ⟨n, fr, l⟩ j = true) ∧ OwnP wr (w.heap.size + 2) g m c (between lo hi (keysOf (l.take k))) ∧ OwnP wr w.heap.size (w.heap.size + 1) 0 0 [] ∧ V3 wr w.heap.size 64 (.int .i64 n) (.int .i64 fr) (.slice (some ⟨b, off, none⟩) l.length cap) ∧ Below w.heap.size w wr) (fun _ kv _ => l.length - (intOf kv).toNat)
      case atStart =>
        rw [hsW] at hO0
        exact ⟨0, _, 0, 0, rfl, rfl, Nat.zero_le _, fun j hj => absurd hj (by omega), hO0, hN2, hV2, hB2⟩
      case round =>
      obtain ⟨k, g, m, c, rfl, rfl, hk, hok, hO, hN, hV, hB⟩ := hrel
      clear hO0 hN2 hV2 hB2
      by_cases hlt : k < l.length
      · have hki : (k : Int) < (l.length : Int) := by omega
        have a0 := hV.c0
        have a1 := hV.c1
        have a2 := hV.c2
        have hIt := spec_l5Item root n fr b off cap k l wr (HS.out.below hB) hlt (by omega)
        cases hik : itemOkAt root ⟨n, fr, l⟩ k with
        | false =>
          rw [hik] at hIt
          have HIt := Hid.mk' hIt
          have HC : Hid (check root lo hi ⟨n, fr, l⟩ = none) := by
            show _ = _
            unfold check
            rw [if_neg hn0, if_neg (by rintro (h1 | h1 | h1); exact h1 hn1; exact hlne h1; exact h1 hf1), if_pos (all_range_false hlt hik)]
          rw [HC.out]
          have HN := Hid.mk' hN
          clear HC hIt hO hN hV hok hsm
          go_wp2_with (at_builtin; fail)
          refine HIt.out.mono ?_
          rintro e w1 ⟨rfl, hb1⟩
          have hB1 := hB.trans (hb1.mono hB.size)
          have HN1 := Hid.mk' (HN.out.below hb1)
          clear HIt HN hb1
          go_wp2_with (at_builtin; fail)
          go_ret2
          exact ⟨hB1, _, _, _, by simp, HN1.out⟩
        | true =>
          rw [hik] at hIt
          have HIt := Hid.mk' hIt
          have HOK : Hid (∀ j, j < k + 1 → itemOkAt root ⟨n, fr, l⟩ j = true) := fun j hj => by
            by_cases e : j = k
            · rw [e]; exact hik
            · exact hok j (by omega)
          have hbt := between_snoc lo hi (keysOf (l.take k)) l[k].1
          rw [← keys_take hlt] at hbt
          have hkk : (keysOf (l.take k)).length = k := by unfold keysOf; rw [List.length_map, List.length_take]; omega
          have hml : m ≤ k := by have := hO.1; have := between_le lo hi (keysOf (l.take k)); omega
          obtain ⟨xk, hxk⟩ : ∃ xk, l[k] = xk := ⟨_, rfl⟩
          have hlx := hsm l[k] (List.getElem_mem hlt)
          rw [hxk] at hlx
          have hpk : small xk.1 := ⟨by have := hlx.1.1; unfold maxLen; omega, by have := hlx.1.2; unfold maxLen; omega⟩
          have HO := Hid.mk' hO
          have HN := Hid.mk' hN
          have HV := Hid.mk' hV
          clear hIt hO hN hV hok hsm hik hlx
          go_wp2_with (at_builtin; fail)
          refine HIt.out.mono ?_
          rintro e w1 ⟨rfl, hb1⟩
          have hB1 := hB.trans (hb1.mono hB.size)
          have hO1 := HO.out.below hb1
          have hN1 := HN.out.below hb1
          have hV1 := HV.out.below hb1
          have e2 := hV1.c2
          have hJ := (HS.out.below hB1).at k hlt
          rw [hxk] at hJ hbt
          have c1 := hJ.1
          have c2 := hJ.2.1
          have hs1 : w.heap.size + 2 ≤ w1.heap.size := by have := hO1.lt; omega
          have hIn := spec_l3In xk.1.1 lo hi w1
          clear HIt HO HN HV hb1 hB hJ a0 a1 a2 hxk
          cases hib : inB lo hi xk.1.1 with
          | false =>
            rw [hib] at hIn hbt
            have HIn := Hid.mk' hIn
            have HBT : Hid (between lo hi (keysOf (l.take (k + 1))) = between lo hi (keysOf (l.take k))) := by show _ = _; rw [hbt]; simp
            have HO1 := Hid.mk' hO1
            have HN1 := Hid.mk' hN1
            have HV1 := Hid.mk' hV1
            clear hIn hbt hO1 hN1 hV1 hib
            go_wp2_with (at_builtin; fail)
            refine HIn.out.mono ?_
            rintro e w3 ⟨rfl, hw3⟩
            subst hw3
            clear HIn
            go_wp2_with (at_builtin; fail)
            go_roundw
            case rel => exact ⟨k + 1, g, m, c, rfl, by go_num, by omega, HOK.out, by rw [HBT.out]; exact HO1.out, HN1.out, HV1.out, hB1⟩
            case measure => simp [intOf]; omega
          | true =>
            rw [hib] at hIn hbt
            have HIn := Hid.mk' hIn
            have HBT : Hid (between lo hi (keysOf (l.take (k + 1))) = between lo hi (keysOf (l.take k)) ++ [xk.1]) := by show _ = _; rw [hbt]; simp
            have hc3 : m + 1 ≤ maxLen := by unfold maxLen; omega
            have hc4 : (m + 1) * 32 ≤ 140737488355328 := by omega
            have HN1 := Hid.mk' hN1
            have HV1 := Hid.mk' hV1
            clear hIn hbt hN1 hV1 hib
            generalize xk.1 = p at *
            go_wp2_with (at_builtin; fail)
            refine HIn.out.mono ?_
            rintro e w3 ⟨rfl, hw3⟩
            subst hw3
            clear HIn
            go_wp2_with (at_builtin; refine wpList_append_own _ rfl (.tmp 77) (.tmp 84) 30 rfl (w.heap.size + 2) 34 i0 (.agg #[.string ⟨#[]⟩, .string ⟨#[]⟩]) 2 32 Tryz.underlying30 hif hz0 hz1 hz2 rfl (by decide) _ _ _ rfl (hO1.2.2.alloc _) ⟨w3.heap.size, 0, none⟩ 1 1 (pairVals [p]) rfl rfl (one_pair_cells _ _ _) (pairVals_oneCell _) hc3 hc4 (le_alloc _ _ hs1) ?_)
            intro v2 w2 hown hgrow hnn
            obtain ⟨g2, cp2, hv, hO2⟩ := ownP_app hO1.1 hO1.2.1 hpk hnn hown
            subst hv
            have hgr2 : (w3.alloc (.cells #[.string p.1, .string p.2] 34)).grownBy w2 (some g) := hgrow
            have hgl := hO1.lt.1
            have hba : Below w3.heap.size w3 (w3.alloc (.cells #[.string p.1, .string p.2] 34)) := (Below.refl _ _).alloc (Nat.le_refl _) _
            have hBg : Below (w.heap.size + 2) w3 w2 := (hba.mono hs1).trans (below_grown hgr2 hgl (by have := hba.size; omega))
            have HB2 := Hid.mk' (hB1.trans (hBg.mono (by omega)))
            have HN2 : Hid (OwnP w2 w.heap.size (w.heap.size + 1) 0 0 []) := ownP_of_block HN1.out (hBg.block _ (by omega))
            have HV2 : Hid (V3 w2 w.heap.size 64 (.int .i64 n) (.int .i64 fr) (.slice (some ⟨b, off, none⟩) l.length cap)) := (hBg.block _ (by omega)).trans HV1.out
            rw [← HBT.out] at hO2
            have HO2 := Hid.mk' hO2
            clear hown hgrow hgr2 hnn hO2 hO1 hB1 hBg hba HN1 HV1 c1 c2 e2
            go_wp2_with (at_builtin; fail)
            go_roundw
            case rel => exact ⟨k + 1, g2, m + 1, cp2, rfl, by go_num, by omega, HOK.out, HO2.out, HN2.out, HV2.out, HB2.out⟩
            case measure => simp [intOf]; omega
      · have hall : ∀ j, j < l.length → itemOkAt root ⟨n, fr, l⟩ j = true := fun j hj => hok j (by omega)
        have hkl : k = l.length := by omega
        subst hkl
        have HCK : Hid (check root lo hi ⟨n, fr, l⟩ = @ite _ (endsBad lo hi ⟨n, fr, l⟩) (endsDec lo hi ⟨n, fr, l⟩) none (some (between lo hi (keysOf l)))) := by
          show _ = _
          unfold check
          rw [if_neg hn0, if_neg (by rintro (h1 | h1 | h1); exact h1 hn1; exact hlne h1; exact h1 hf1), if_neg (by rw [all_range_true hall]; simp)]
        rw [List.take_length] at hO
        have HOU := Hid.mk' (hO.mono (base' := w.heap.size) (by omega))
        have hki : ¬ ((l.length : Nat) : Int) < (l.length : Int) := by omega
        have hpos : 0 < l.length := by omega
        have HJ := HS.out.below hB
        have i0c := (HJ.at 0 hpos).1
        have i1c := (HJ.at (l.length - 1) (by omega)).1
        have hfk : firstKey l = l[0].1.1 := by unfold firstKey; rw [List.head?_eq_getElem?, List.getElem?_eq_getElem hpos]
        have hlk : lastKey l = (l[l.length - 1]'(by omega)).1.1 := by unfold lastKey; rw [List.getLast?_eq_getElem?, List.getElem?_eq_getElem (by omega)]
        rw [← hfk] at i0c
        rw [← hlk] at i1c
        have HEB : Hid (endsBad lo hi ⟨n, fr, l⟩ ↔ (ltB (firstKey l) lo = false ∧ 0 < fr) ∨ ((hi.size = 0 ∨ ltB (lastKey l) hi = true) ∧ fr + (l.length : Int) < n)) := Iff.rfl
        rw [Nat.zero_mul, Nat.add_zero] at i0c
        obtain ⟨q, hq⟩ : ∃ q, l.length - 1 = q := ⟨_, rfl⟩
        rw [hq] at i1c
        have hqi : (l.length : Int) - 1 = (q : Int) := by omega
        have hqn : (q : Int) < (l.length : Int) := by omega
        have h0l : (0 : Int) < (l.length : Int) := by omega
        have a0 := hV.c0
        have a1 := hV.c1
        have a2 := hV.c2
        have HN := Hid.mk' hN
        generalize firstKey l = fk at *
        generalize lastKey l = lk at *
        have hz : hi.size = 0 ↔ hi = ⟨#[]⟩ := by
          constructor
          · intro h; apply bytes_ext; exact List.eq_nil_of_length_eq_zero (by rw [Array.length_toList]; exact h)
          · rintro rfl; rfl
        clear hO hok hall HJ hfk hlk hV hN hq hsm
        cases h1 : Op.bytesLess fk.toList lo.toList with
        | false =>
          by_cases hf0 : 0 < fr
          · have HC : Hid (check root lo hi ⟨n, fr, l⟩ = none) := by show _ = _; rw [HCK.out, if_pos (show endsBad lo hi ⟨n, fr, l⟩ from HEB.out.2 (.inl ⟨h1, hf0⟩))]
            clear HCK
            go_wp2_with (at_builtin; fail)
            go_ret2
            exact ⟨hB, _, _, _, by rw [HC.out]; rfl, by rw [HC.out]; exact HN.out⟩
          · have HF0 : Hid (¬ 0 < fr) := hf0
            by_cases hh : hi = ⟨#[]⟩
            · have HZ : Hid (hi.size = 0) := hz.2 hh
              clear hz
              by_cases he : fr + (l.length : Int) < n
              · have HC : Hid (check root lo hi ⟨n, fr, l⟩ = none) := by show _ = _; rw [HCK.out, if_pos (show endsBad lo hi ⟨n, fr, l⟩ from HEB.out.2 (.inr ⟨.inl HZ.out, he⟩))]
                clear HCK
                subst hh
                go_wp2_with (at_builtin; fail)
                go_ret2
                exact ⟨hB, _, _, _, by rw [HC.out]; rfl, by rw [HC.out]; exact HN.out⟩
              · have HC : Hid (check root lo hi ⟨n, fr, l⟩ = some (between lo hi (keysOf l))) := by show _ = _; rw [HCK.out, if_neg (show ¬ endsBad lo hi ⟨n, fr, l⟩ from fun hb => by rcases HEB.out.1 hb with h1 | h1; exact (fun h : ltB fk lo = false ∧ 0 < fr => HF0.out h.2) h1; exact he h1.2)]
                clear HCK
                subst hh
                go_wp2_with (at_builtin; fail)
                go_ret2
                exact ⟨hB, _, _, _, by rw [HC.out]; rfl, by rw [HC.out]; exact HOU.out⟩
            · have HZ : Hid (¬ hi.size = 0) := fun e => hh (hz.1 e)
              have hq2 : hi.toList.isEmpty = false := by rw [Bool.eq_false_iff]; intro e; exact hh (bytes_ext (by rw [← ByteArray.toList_eq]; exact List.isEmpty_iff.1 e))
              have hq3 : ¬ hi.toList = [] := fun e => hh (bytes_ext (by rw [← ByteArray.toList_eq]; exact e))
              clear hz hh
              cases h3 : Op.bytesLess lk.toList hi.toList with
              | true =>
                by_cases he : fr + (l.length : Int) < n
                · have HC : Hid (check root lo hi ⟨n, fr, l⟩ = none) := by show _ = _; rw [HCK.out, if_pos (show endsBad lo hi ⟨n, fr, l⟩ from HEB.out.2 (.inr ⟨.inr h3, he⟩))]
                  clear HCK
                  go_wp2_with (at_builtin; fail)
                  go_ret2
                  exact ⟨hB, _, _, _, by rw [HC.out]; rfl, by rw [HC.out]; exact HN.out⟩
                · have HC : Hid (check root lo hi ⟨n, fr, l⟩ = some (between lo hi (keysOf l))) := by show _ = _; rw [HCK.out, if_neg (show ¬ endsBad lo hi ⟨n, fr, l⟩ from fun hb => by rcases HEB.out.1 hb with h1 | h1; exact (fun h : ltB fk lo = false ∧ 0 < fr => HF0.out h.2) h1; exact he h1.2)]
                  clear HCK
                  go_wp2_with (at_builtin; fail)
                  go_ret2
                  exact ⟨hB, _, _, _, by rw [HC.out]; rfl, by rw [HC.out]; exact HOU.out⟩
              | false =>
                have HC : Hid (check root lo hi ⟨n, fr, l⟩ = some (between lo hi (keysOf l))) := by show _ = _; rw [HCK.out, if_neg (show ¬ endsBad lo hi ⟨n, fr, l⟩ from fun hb => by rcases HEB.out.1 hb with h1 | h1; exact (fun h : ltB fk lo = false ∧ 0 < fr => HF0.out h.2) h1; rcases h1.1 with h2 | h2; exact HZ.out h2; (have h4 : ltB lk hi = false := h3); rw [h4] at h2; cases h2)]
                clear HCK
                go_wp2_with (at_builtin; fail)
                go_ret2
                exact ⟨hB, _, _, _, by rw [HC.out]; rfl, by rw [HC.out]; exact HOU.out⟩
        | true =>
          have H1 : Hid (ltB fk lo = true) := h1
          by_cases hh : hi = ⟨#[]⟩
          · have HZ : Hid (hi.size = 0) := hz.2 hh
            clear hz
            by_cases he : fr + (l.length : Int) < n
            · have HC : Hid (check root lo hi ⟨n, fr, l⟩ = none) := by show _ = _; rw [HCK.out, if_pos (show endsBad lo hi ⟨n, fr, l⟩ from HEB.out.2 (.inr ⟨.inl HZ.out, he⟩))]
              clear HCK
              subst hh
              go_wp2_with (at_builtin; fail)
              go_ret2
              exact ⟨hB, _, _, _, by rw [HC.out]; rfl, by rw [HC.out]; exact HN.out⟩
            · have HC : Hid (check root lo hi ⟨n, fr, l⟩ = some (between lo hi (keysOf l))) := by show _ = _; rw [HCK.out, if_neg (show ¬ endsBad lo hi ⟨n, fr, l⟩ from fun hb => by rcases HEB.out.1 hb with h1 | h1; exact (fun h : ltB fk lo = false ∧ 0 < fr => by rw [H1.out] at h; cases h.1) h1; exact he h1.2)]
              clear HCK
              subst hh
              go_wp2_with (at_builtin; fail)
              go_ret2
              exact ⟨hB, _, _, _, by rw [HC.out]; rfl, by rw [HC.out]; exact HOU.out⟩
          · have HZ : Hid (¬ hi.size = 0) := fun e => hh (hz.1 e)
            have hq2 : hi.toList.isEmpty = false := by rw [Bool.eq_false_iff]; intro e; exact hh (bytes_ext (by rw [← ByteArray.toList_eq]; exact List.isEmpty_iff.1 e))
            have hq3 : ¬ hi.toList = [] := fun e => hh (bytes_ext (by rw [← ByteArray.toList_eq]; exact e))
            clear hz hh
            cases h3 : Op.bytesLess lk.toList hi.toList with
            | true =>
              by_cases he : fr + (l.length : Int) < n
              · have HC : Hid (check root lo hi ⟨n, fr, l⟩ = none) := by show _ = _; rw [HCK.out, if_pos (show endsBad lo hi ⟨n, fr, l⟩ from HEB.out.2 (.inr ⟨.inr h3, he⟩))]
                clear HCK
                go_wp2_with (at_builtin; fail)
                go_ret2
                exact ⟨hB, _, _, _, by rw [HC.out]; rfl, by rw [HC.out]; exact HN.out⟩
              · have HC : Hid (check root lo hi ⟨n, fr, l⟩ = some (between lo hi (keysOf l))) := by show _ = _; rw [HCK.out, if_neg (show ¬ endsBad lo hi ⟨n, fr, l⟩ from fun hb => by rcases HEB.out.1 hb with h1 | h1; exact (fun h : ltB fk lo = false ∧ 0 < fr => by rw [H1.out] at h; cases h.1) h1; exact he h1.2)]
                clear HCK
                go_wp2_with (at_builtin; fail)
                go_ret2
                exact ⟨hB, _, _, _, by rw [HC.out]; rfl, by rw [HC.out]; exact HOU.out⟩
            | false =>
              have HC : Hid (check root lo hi ⟨n, fr, l⟩ = some (between lo hi (keysOf l))) := by show _ = _; rw [HCK.out, if_neg (show ¬ endsBad lo hi ⟨n, fr, l⟩ from fun hb => by rcases HEB.out.1 hb with h1 | h1; exact (fun h : ltB fk lo = false ∧ 0 < fr => by rw [H1.out] at h; cases h.1) h1; rcases h1.1 with h2 | h2; exact HZ.out h2; (have h4 : ltB lk hi = false := h3); rw [h4] at h2; cases h2)]
              clear HCK
              go_wp2_with (at_builtin; fail)
              go_ret2
              exact ⟨hB, _, _, _, by rw [HC.out]; rfl, by rw [HC.out]; exact HOU.out⟩
    · rw [decide_eq_false hf1] at hin2
      have HI2 := Hid.mk' hin2
      have HC : Hid (check root lo hi ⟨n, fr, l⟩ = none) := by show _ = _; unfold check; rw [if_neg hn0, if_pos (.inr (.inr hf1))]
      rw [HC.out]
      clear HC hin1 hin2 hf1
      go_enter Tryz.func31, Tryz.ntmps31
      go_wp2_with fail
      rw [HW.out]
      refine (HI1.out _).mono ?_
      rintro e w1 ⟨rfl, hw1⟩
      subst hw1
      go_wp2_with fail
      refine (HI2.out _).mono ?_
      rintro e w1 ⟨rfl, hw1⟩
      subst hw1
      go_wp2_with fail
      go_ret2
      exact ⟨hBW, _, _, _, by simp, hN0⟩
  · rw [decide_eq_false hn1] at hin1
    have HI1 := Hid.mk' hin1
    have HC : Hid (check root lo hi ⟨n, fr, l⟩ = none) := by show _ = _; unfold check; rw [if_neg hn0, if_pos (.inl hn1)]
    rw [HC.out]
    clear HC hin1 hin2 hn1
    go_enter Tryz.func31, Tryz.ntmps31
    go_wp2_with fail
    rw [HW.out]
    refine (HI1.out _).mono ?_
    rintro e w1 ⟨rfl, hw1⟩
    subst hw1
    go_wp2_with fail
    go_ret2
    exact ⟨hBW, _, _, _, by simp, hN0⟩
end Go.Proofs.YteammdkipnfmnaaGreatDoor.range
