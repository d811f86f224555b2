/- The statement FnVotedSaid: at every code FnVoted answers true, and the code reads afterwards as before. No condition besides the row's own. -/
import Derived.Test.YtdeaiefhegjalaaRows
import Derived.Test.YtdeaiefhegjalaaBund14i
import Derived.Test.YtdeaiefhegjalaaBund14h
import Derived.Test.YtdeaiefhegjalaaBund14g
import Derived.BigQuiet
import Derived.ProofKit
import Derived.OpenShut
import Derived.ShutString
import Derived.ChangeOld
import Derived.Below
namespace Go.Proofs.Ytdeaiefhegjalaa.fnVoted
open Go.ChangeShapes Go.WideShapes Go.ChangeAt Go.RowKit
open Go.ChangeMaps (open_string shut_string)
set_option linter.unusedVariables false
set_option linter.unusedSimpArgs false
open Go.Proofs.Ytdeaiefhegjalaa.base Go.Proofs.Ytdeaiefhegjalaa.pairs Go.Proofs.Ytdeaiefhegjalaa.ords Go.Proofs.Ytdeaiefhegjalaa.cos Go.Proofs.Ytdeaiefhegjalaa.lay Go.Proofs.Ytdeaiefhegjalaa.wds Go.Proofs.Ytdeaiefhegjalaa.draw

def VF (c R : Co) (tx : Int) (y : Bool) : Prop := R.2.2.2.1.length = c.2.2.2.1.length ∧ coordOk R = coordOk c ∧ (R.2.2.2.2.1 = c.2.2.2.2.1 ∨ (R.2.2.2.2.1 = c.2.2.2.2.1 ++ [(tx, y)] ∧ RightCo R ∧ ∃ k, ∃ hk : k < R.2.2.2.1.length, R.2.2.2.1[k].1 = tx ∧ (∀ i (hi : i < k), (R.2.2.2.1[i]'(by omega)).1 ≠ tx) ∧ (y = true → R.2.2.2.1[k].2.2.2.length = (shardsOf R.1 R.2.2.2.1[k].2.1).length ∧ R.2.2.2.1[k].2.2.1 = 2)))
theorem vote_facts (c : Co) (sh tx : Int) (y : Bool) : VF c (voteR c sh tx y) tx y := by
  cases hok : coordOk c with
  | false =>
    have e : voteR c sh tx y = c := by unfold voteR; rw [if_neg (by rw [hok]; decide)]
    rw [e]
    exact ⟨rfl, rfl, .inl rfl⟩
  | true =>
    have e : voteR c sh tx y = voteS c sh tx y := by unfold voteR; rw [if_pos hok]
    rw [e]
    have hR := coordOk_iff.1 hok
    have hR2 : RightCo (voteS c sh tx y) := vote_right hR
    refine ⟨?_, (coordOk_iff.2 hR2).trans hok.symm, ?_⟩
    · cases hv : votes c sh tx with
      | none => rw [voteS_none hv]
      | some k =>
        obtain ⟨hk, _⟩ := votes_some hv
        rw [voteS_eq hv hk]
        simp [votedC]
    · cases hv : votes c sh tx with
      | none => exact .inl (by rw [voteS_none hv])
      | some k =>
        obtain ⟨hk, h1, h2, h3, h4, h5⟩ := votes_some hv
        have hb : ∀ i (hi : i < k), (c.2.2.2.1[i]'(by omega)).1 ≠ tx := fun i hi e => by
          obtain ⟨_, _, h6⟩ := findIdx_some h5
          have := h6 i hi
          simp [e] at this
        rw [voteS_eq hv hk] at hR2 ⊢
        have hset : ∀ (j : Jb) (hj : j.1 = tx) (i : Nat) (hi : i < k) (hl : i < (c.2.2.2.1.set k j).length), (c.2.2.2.1.set k j)[i].1 ≠ tx := fun j hj i hi hl => by
          rw [List.getElem_set_ne (by omega)]
          exact hb i hi
        cases y
        · refine .inr ⟨?_, hR2, k, by simpa [votedC] using hk, ?_, fun i hi => ?_, fun e => by cases e⟩
          · simp [votedC, votedJ, addCh, h1]
          · simp [votedC, votedJ, h1]
          · exact hset _ (by simp [votedJ, h1]) i hi _
        · by_cases hall : (putI c.2.2.2.1[k].2.2.2 sh).length = (shardsOf c.1 c.2.2.2.1[k].2.1).length
          · refine .inr ⟨?_, hR2, k, by simpa [votedC] using hk, ?_, fun i hi => ?_, fun _ => ?_⟩
            · simp [votedC, votedJ, addCh, h1, hall]
            · simp [votedC, votedJ, h1, hall]
            · exact hset _ (by simp [votedJ, h1, hall]) i hi _
            · simp [votedC, votedJ, hall]
          · exact .inl (by simp [votedC, votedJ, addCh, hall])
theorem vote_bound {c : Co} {sh tx : Int} {y : Bool} (h : BoundCo c) : BoundCo (voteR c sh tx y) := by
  unfold voteR
  split
  · rename_i hok; exact (vote_right (coordOk_iff.1 hok)).bound
  · exact h
set_option maxRecDepth 100000 in
set_option maxHeartbeats 8000000 in
theorem walk (a0 : Option Addr) (len0 cap0 : Nat) (code : List UInt8) (w : World) (h : Sl w a0 len0 code) :
    Calls Try.prog 3 #[.slice a0 len0 cap0] w fun e w' => e = .returned (.bool true) ∧ Below w.heap.size w w' := by
  have HBG := Hid.mk' (big_ a0 len0 cap0 w h.2.1)
  by_cases hbig : 1048576 < (len0 : Int)
  · rw [decide_eq_true hbig] at HBG
    clear h
    go_enter Try.func3, Try.ntmps3
    go_wp2_with fail
    refine HBG.out.mono ?_
    rintro e w1 ⟨rfl, rfl⟩
    go_wp2_with fail
    go_ret
    exact ⟨rfl, Below.refl _ _⟩
  rw [decide_eq_false hbig] at HBG
  have HDR := Hid.mk' (drawVote a0 len0 cap0 code w h (by omega))
  clear h hbig
  go_enter Try.func3, Try.ntmps3
  go_wp2_with fail
  refine HBG.out.mono ?_
  rintro e w0 ⟨rfl, hw0⟩
  replace hw0 := hw0.symm
  subst hw0
  clear HBG
  go_wp2_with fail
  refine HDR.out.mono ?_
  rintro e w1 ⟨sh, tx, yy, hshw, htxw, ja, jn, jc, la, ln, lc, c, F, hcz, rfl, hO1, hF1, hB1⟩
  clear HDR
  have hbd := bound_co (c := c) (by omega)
  obtain ⟨v1, hv1⟩ : ∃ V, w1.alloc (.cells #[.int .i64 c.1, .int .i64 c.2.1, .int .i64 c.2.2.1, .slice ja jn jc, .slice la ln lc, .int .i64 c.2.2.2.2.2] 27) = V := ⟨_, rfl⟩
  have hb1 : Below w1.heap.size w1 v1 := by rw [← hv1]; exact below_make
  have hC1 := inR_new (T := 27) hO1
  rw [hv1] at hC1
  have HVv1 := Hid.mk' hv1
  have hBv1 := hB1.trans (hb1.mono hB1.size)
  have HI1 := Hid.mk' (impl_vote i_addYes ja jn jc la ln lc c sh tx yy v1 (see_co hC1.see) hbd hshw htxw)
  have HS := Hid.mk' (fun wx (hx : SeeCo wx ja jn jc la ln lc c) => spec_vote ja jn jc la ln lc c sh tx yy wx hx hbd hshw htxw)
  have HK := Hid.mk' (fun wx (hx : SeeCo wx ja jn jc la ln lc c) => spec_coordOk ja jn jc la ln lc c wx hx hbd.fits)
  have hVF := vote_facts c sh tx yy
  have hRb : BoundCo (voteR c sh tx yy) := vote_bound hbd
  generalize voteR c sh tx yy = R at *
  obtain ⟨hjlen, hRok, hlog⟩ := hVF
  obtain ⟨a0, a1, a2, a3, a4, a5⟩ := cells6 hC1.box
  rw [← hv1] at a0 a1 a2 a3 a4 a5
  clear hv1 hO1 hF1
  go_wp2_with fail
  rw [HVv1.out]
  refine HI1.out.mono ?_
  rintro e w2 ⟨vs2, F2, rfl, hO2, hF2, hb2⟩
  obtain ⟨xja, xjn, xjc, xla, xln, xlc, rfl⟩ := coord_shape hO2
  clear a0 a1 a2 a3 a4 a5 HI1 HVv1
  obtain ⟨v2, hv2⟩ : ∃ V, w2.alloc (.cells #[.int .i64 R.1, .int .i64 R.2.1, .int .i64 R.2.2.1, .slice xja xjn xjc, .slice xla xln xlc, .int .i64 R.2.2.2.2.2] 27) = V := ⟨_, rfl⟩
  have hb2b : Below w2.heap.size w2 v2 := by rw [← hv2]; exact below_make
  have hX2 := inR_new (T := 27) hO2
  rw [hv2] at hX2
  have HVv2 := Hid.mk' hv2
  have hb22 := hb2.trans (hb2b.mono hb2.size)
  have hC2 := hC1.below hb22
  have hBv2 := hBv1.trans (hb22.mono hBv1.size)
  have HS2 := Hid.mk' (HS.out v2 (see_co hC2.see))
  obtain ⟨a0, a1, a2, a3, a4, a5⟩ := cells6 hC2.box
  rw [← hv2] at a0 a1 a2 a3 a4 a5
  clear hv2 hO2 hF2 HS
  go_wp2_with fail
  rw [HVv2.out]
  refine HS2.out.mono ?_
  rintro e w3 ⟨vs3, F3, rfl, hO3, hF3, hb3⟩
  obtain ⟨yja, yjn, yjc, yla, yln, ylc, rfl⟩ := coord_shape hO3
  clear a0 a1 a2 a3 a4 a5 HS2 HVv2
  obtain ⟨v3, hv3⟩ : ∃ V, w3.alloc (.cells #[.int .i64 R.1, .int .i64 R.2.1, .int .i64 R.2.2.1, .slice yja yjn yjc, .slice yla yln ylc, .int .i64 R.2.2.2.2.2] 27) = V := ⟨_, rfl⟩
  have hb3b : Below w3.heap.size w3 v3 := by rw [← hv3]; exact below_make
  have hY3 := inR_new (T := 27) hO3
  rw [hv3] at hY3
  have HVv3 := Hid.mk' hv3
  have hb33 := hb3.trans (hb3b.mono hb3.size)
  have hC3 := hC2.below hb33
  have hX3 := hX2.below hb33
  have hBv3 := hBv2.trans (hb33.mono hBv2.size)
  have sx := see_co hX3.see
  have sy := see_co hY3.see
  have sc := see_co hC3.see
  obtain rfl : yln = xln := sy.log.1.symm.trans sx.log.1
  obtain rfl : yjn = xjn := sy.jobs.1.symm.trans sx.jobs.1
  have e1 : ((yln : Int) != (yln : Int)) = false := by simp
  obtain rfl : jn = yjn := by have h1 := sx.jobs.1; have h2 := sc.jobs.1; omega
  have e4 : ((jn : Int) != (jn : Int)) = false := by simp
  have HK3 := Hid.mk' (fun wx (hx : Below v3.heap.size v3 wx) => HK.out wx (sc.below hx))
  have HKX := Hid.mk' (fun wx (hx : Below v3.heap.size v3 wx) => impl_coordOk xja jn xjc xla yln xlc R wx (sx.below hx) hRb.fits)
  rw [hRok] at HKX
  have HSX := Hid.mk' sx
  have HSC := Hid.mk' sc
  have hxl := sx.log.1
  have hcl := sc.log.1
  obtain ⟨x0, x1, x2, x3, x4, x5⟩ := cells6 hX3.box
  obtain ⟨y0, y1, y2, y3, y4, y5⟩ := cells6 hY3.box
  obtain ⟨a0, a1, a2, a3, a4, a5⟩ := cells6 hC3.box
  have ox0 := last.On.cell (B := v3.heap.size) x0 hX3.box.lt
  have ox1 := last.On.cell (B := v3.heap.size) x1 hX3.box.lt
  have ox2 := last.On.cell (B := v3.heap.size) x2 hX3.box.lt
  have ox3 := last.On.cell (B := v3.heap.size) x3 hX3.box.lt
  have ox4 := last.On.cell (B := v3.heap.size) x4 hX3.box.lt
  have ox5 := last.On.cell (B := v3.heap.size) x5 hX3.box.lt
  have oy0 := last.On.cell (B := v3.heap.size) y0 hY3.box.lt
  have oy1 := last.On.cell (B := v3.heap.size) y1 hY3.box.lt
  have oy2 := last.On.cell (B := v3.heap.size) y2 hY3.box.lt
  have oy3 := last.On.cell (B := v3.heap.size) y3 hY3.box.lt
  have oy4 := last.On.cell (B := v3.heap.size) y4 hY3.box.lt
  have oy5 := last.On.cell (B := v3.heap.size) y5 hY3.box.lt
  have oa0 := last.On.cell (B := v3.heap.size) a0 hC3.box.lt
  have oa1 := last.On.cell (B := v3.heap.size) a1 hC3.box.lt
  have oa2 := last.On.cell (B := v3.heap.size) a2 hC3.box.lt
  have oa3 := last.On.cell (B := v3.heap.size) a3 hC3.box.lt
  have oa4 := last.On.cell (B := v3.heap.size) a4 hC3.box.lt
  have oa5 := last.On.cell (B := v3.heap.size) a5 hC3.box.lt
  have hinh := last.On.inh v3.heap.size v3
  have hcall0 : ∀ xx : last.On v3.heap.size v3, Calls Try.prog 8 #[.agg #[.int .i64 R.1, .int .i64 R.2.1, .int .i64 R.2.2.1, .slice xja jn xjc, .slice xla yln xlc, .int .i64 R.2.2.2.2.2]] xx.w fun e w' => e = .returned (.bool (coordOk c)) ∧ ∃ yv : last.On v3.heap.size v3, w' = yv.w := fun xx => last.Calls.on xx (Nat.le_refl _) (HKX.out xx.w xx.2)
  have hcall1 : ∀ xx : last.On v3.heap.size v3, Calls Try.prog 9 #[.agg #[.int .i64 c.1, .int .i64 c.2.1, .int .i64 c.2.2.1, .slice ja jn jc, .slice la ln lc, .int .i64 c.2.2.2.2.2]] xx.w fun e w' => e = .returned (.bool (coordOk c)) ∧ ∃ yv : last.On v3.heap.size v3, w' = yv.w := fun xx => last.Calls.on xx (Nat.le_refl _) (HK3.out xx.w xx.2)
  have hbb : ((coordOk c) != (coordOk c)) = false := by simp
  generalize coordOk c = okb at *
  have HLG := Hid.mk' hlog
  have hyl9 : yln ≤ 1048576 := by rw [← hxl]; exact hRb.log
  have hln9 : ln ≤ 1048576 := by rw [← hcl]; exact hbd.log
  have hjn9 : jn ≤ 1048576 := by rw [← HSC.out.jobs.1]; exact hbd.jobs
  have HXL := Hid.mk' hxl
  have HCL := Hid.mk' hcl
  have HGE : Hid (ln ≤ yln) := by
    show ln ≤ yln
    rcases hlog with e | ⟨e, _⟩
    · have := congrArg List.length e
      omega
    · have := congrArg List.length e
      simp at this
      omega
  clear hO3 hF3 HK sy sx sc hC1 hC2 hX2 hb2 hb22 hb3 hb33 hb2b hb3b HK3 HKX hlog hxl hcl hRok hjlen hv3 x0 x1 x2 x3 x4 x5 y0 y1 y2 y3 y4 y5 a0 a1 a2 a3 a4 a5
  go_wp2_with fail
  rw [HVv3.out]
  refine last.wp_region_on v3.heap.size (by kernel_rfl) (by kernel_rfl) ?_
  repeat (go_big_quiet_step ((first | (go_at_call 8; with_reducible exact hcall0 _) | (go_at_call 9; with_reducible exact hcall1 _))))
  refine wpQuiet_nil ?_
  intro wq hwq
  obtain ⟨xq, hwq⟩ := hwq
  subst hwq
  have hb4 : Below v3.heap.size v3 xq.w := xq.2
  generalize xq.w = w4 at *
  clear ox0 ox1 ox2 ox3 ox4 ox5 oy0 oy1 oy2 oy3 oy4 oy5 oa0 oa1 oa2 oa3 oa4 oa5 hinh hcall0 hcall1 hbb e1 e4 HVv3
  have hX4 := hX3.below hb4
  have hC4 := hC3.below hb4
  have hB4 := hBv3.trans (hb4.mono hBv3.size)
  have HSX4 := Hid.mk' (HSX.out.below hb4)
  have HSC4 := Hid.mk' (HSC.out.below hb4)
  clear hX3 hC3 hY3 hBv3 hb4 HSX HSC
  go_wp2_with fail
  go_loopw [9] (fun i wr => ∃ k : Nat, k ≤ ln ∧ i = .int .i64 (k : Int) ∧ Below w4.heap.size w4 wr) (fun i _ => ln - (intOf i).toNat)
  case atStart => exact ⟨0, Nat.zero_le _, rfl, Below.refl _ _⟩
  case round =>
    obtain ⟨k, hk, rfl, hbr⟩ := hrel
    have hXr := hX4.below hbr
    have hCr := hC4.below hbr
    have a4 := hCr.box.cell 4 _ rfl
    simp only [List.length_nil, Nat.zero_add] at a4
    by_cases hlt : k < ln
    · have hki : (k : Int) < (ln : Int) := by omega
      have hki2 : (k : Int) < (yln : Int) := by have := HGE.out; omega
      have h1 : k < R.2.2.2.2.1.length := by rw [HXL.out]; have := HGE.out; omega
      have h2 : k < c.2.2.2.2.1.length := by rw [HCL.out]; exact hlt
      have hsame : R.2.2.2.2.1[k] = c.2.2.2.2.1[k] := by
        rcases HLG.out with e | ⟨e, _⟩
        · simp only [e]
        · simp only [e]; exact List.getElem_append_left h2
      obtain ⟨bx, ox, hxa, _⟩ := HSX4.out.log.2.2.2 (by have := HGE.out; omega)
      obtain ⟨bc, oc, hca, _⟩ := HSC4.out.log.2.2.2 (by omega)
      subst hxa
      subst hca
      obtain ⟨c1, c2⟩ := ch_at (HSX4.out.log.below hbr) k h1
      obtain ⟨c3, c4⟩ := ch_at (HSC4.out.log.below hbr) k h2
      rw [hsame] at c1 c2
      clear hsame
      generalize c.2.2.2.2.1[k] = ch at *
      obtain ⟨t, y⟩ := ch
      simp only [] at c1 c2 c3 c4
      have x4 := hXr.box.cell 4 _ rfl
      simp only [List.length_nil, Nat.zero_add] at x4
      have hne1 : (t != t) = false := by simp
      have hne2 : (y != y) = false := by simp
      go_wp2_with fail
      go_quiet (fail)
      have hbq := below_drewN (Below.refl w4.heap.size wr) nq
      generalize hwn : wr.drewN nq = wq at *
      clear hwn c1 c2 c3 c4 x4 a4
      go_wp2_with fail
      go_roundw
      case rel => exact ⟨k + 1, by omega, by go_num, hbr.trans (hbq.mono (Nat.le_refl _))⟩
      case measure => simp [intOf]; omega
    · have hki : ¬ (k : Int) < (ln : Int) := by omega
      have hBr := hB4.trans (hbr.mono hB4.size)
      have x4 := hXr.box.cell 4 _ rfl
      simp only [List.length_nil, Nat.zero_add] at x4
      by_cases hll : yln = ln
      · have hq : ((yln : Int) == (ln : Int)) = true := by simp; omega
        clear hll
        go_wp2_with fail
        go_ret
        exact ⟨rfl, hBr⟩
      · have hq : ((yln : Int) == (ln : Int)) = false := by simp; omega
        obtain ⟨v4, hv4⟩ : ∃ v4, v4 = wr := ⟨_, rfl⟩
        subst hv4
        obtain ⟨hLog, hRt, K, hK, hKtx, hKno, hKall⟩ : R.2.2.2.2.1 = c.2.2.2.2.1 ++ [(tx, yy)] ∧ RightCo R ∧ ∃ K, ∃ hK : K < R.2.2.2.1.length, R.2.2.2.1[K].1 = tx ∧ (∀ i (hi : i < K), (R.2.2.2.1[i]'(by omega)).1 ≠ tx) ∧ (yy = true → R.2.2.2.1[K].2.2.2.length = (shardsOf R.1 R.2.2.2.1[K].2.1).length ∧ R.2.2.2.1[K].2.2.1 = 2) := by
          rcases HLG.out with e | e
          · have := congrArg List.length e
            rw [HXL.out, HCL.out] at this
            exact absurd this hll
          · exact e
        have hyl : (ln : Int) < (yln : Int) := by have := HGE.out; omega
        have h1 : ln < R.2.2.2.2.1.length := by rw [HXL.out]; have := HGE.out; omega
        have hlast : R.2.2.2.2.1[ln] = (tx, yy) := by
          have e := HCL.out
          simp only [hLog]
          rw [List.getElem_append_right (by omega)]
          simp [e]
        obtain ⟨bx, ox, hxa, _⟩ := HSX4.out.log.2.2.2 (by omega)
        subst hxa
        obtain ⟨c1, c2⟩ := ch_at (HSX4.out.log.below hbr) ln h1
        rw [hlast] at c1 c2
        simp only [] at c1 c2
        have HSXr := Hid.mk' (HSX4.out.below hbr)
        obtain ⟨u4, hu4⟩ : ∃ u4, v4.alloc (.cells #[.int .i64 tx, .bool yy] 33) = u4 := ⟨_, rfl⟩
        have hbu : Below v4.heap.size v4 u4 := by rw [← hu4]; exact below_make
        have hL := boxIn_new v4 [.int .i64 tx, .bool yy] 33
        rw [hu4] at hL
        obtain ⟨l0, l1⟩ := cells2 hL
        have hXu := hXr.below hbu
        have hBu := hBr.trans (hbu.mono hBr.size)
        have HU := Hid.mk' hu4
        have HSXu := Hid.mk' (HSXr.out.below hbu)
        have HKNO := Hid.mk' hKno
        have HKALL := Hid.mk' hKall
        have HKTX := Hid.mk' hKtx
        have HFIN := Hid.mk' (hRt.jobs _ (List.getElem_mem hK))
        have HRN := Hid.mk' hRt.n
        have HKJ : Hid (K < jn) := by show K < jn; rw [← HSXr.out.jobs.1]; exact hK
        clear hu4 hLog hlast hKno hKall hKtx hRt hll hL
        go_wp2_with fail
        rw [HU.out]
        clear c1 c2 x4 a4
        go_loopw [11] (fun i wr => ∃ k : Nat, k ≤ K ∧ i = .int .i64 (k : Int) ∧ Below u4.heap.size u4 wr) (fun i _ => K + 1 - (intOf i).toNat)
        case atStart => exact ⟨0, Nat.zero_le _, rfl, Below.refl _ _⟩
        case round =>
          obtain ⟨k, hk, rfl, hbr2⟩ := hrel
          have hXw := hXu.below hbr2
          have hBr := hBu.trans (hbr2.mono hBu.size)
          have hkj : k < jn := by have := HKJ.out; omega
          have hki : (k : Int) < (jn : Int) := by omega
          have h2 : k < R.2.2.2.1.length := by omega
          have SXW := HSXu.out.below hbr2
          obtain ⟨bj, oj, hja, _⟩ := SXW.jobs.2.2.2 (by omega)
          subst hja
          obtain ⟨j0, j2, ⟨oa, ol, oc, j1, hSo, hoc⟩, ya, yl, yc, j3, hSy, hyc⟩ := job_at SXW.jobs k h2
          have x3 := hXw.box.cell 3 _ rfl
          have x0 := hXw.box.cell 0 _ rfl
          simp only [List.length_nil, Nat.zero_add] at x3 x0
          by_cases hkK : k = K
          · subst hkK
            have heq : (R.2.2.2.1[k].1 == tx) = true := by rw [HKTX.out]; simp
            have HALL := HKALL
            have hjf := HFIN.out
            have ho1 := opsOk_len hjf.ops
            have hol := hSo.1
            obtain ⟨ob, oo, hoa, _⟩ := hSo.2.2.2 (by omega)
            subst hoa
            have HYL : Hid (R.2.2.2.1[k].2.2.2.length = yl) := hSy.1
            have hks : ∀ p ∈ R.2.2.2.1[k].2.1, p.2.1.size ≤ 1099511627776 := (hRb.fits.2.2 _ (List.getElem_mem h2)).2
            have hnw : (Lit.int .i64 R.1).wf = true := WalkArith.wf_i64 (by have := HRN.out; omega)
            have HSH := Hid.mk' (fun wx (hx : Below wr.heap.size wr wx) => impl_shardsOf ob oo ol oc R.2.2.2.1[k].2.1 R.1 wx (hSo.below hx) hks (by omega) hnw)
            have J1 := Hid.mk' j1
            have J2 := Hid.mk' j2
            have J3 := Hid.mk' j3
            have X3 := Hid.mk' x3
            have X0 := Hid.mk' x0
            have L0 := Hid.mk' ((hbr2.cell (p := ⟨v4.heap.size, 0, none⟩) (World.block_lt_of_cell? _ _ l0)).trans l0)
            have L1 := Hid.mk' ((hbr2.cell (p := ⟨v4.heap.size, 1, none⟩) (World.block_lt_of_cell? _ _ l1)).trans l1)
            have hdW : Below wr.heap.size wr wr.drew := (Below.refl _ _).drew
            have hyl8 : yl ≤ 8 := by have := (yes_len HRN.out hjf.yes).1; have := HYL.out; omega
            generalize R.2.2.2.1[k].1 = tj at *
            clear HKTX HKNO HFIN HKALL hjf ho1 hks hSo hSy hoc hyc j1 j3 x0 l0 l1 j2
            go_wp2_with fail
            clear j0 x3 heq
            refine last.wp_region_later (S := fun w' => Below wr.heap.size wr w') 18 (by kernel_rfl) hdW (fun hHeld0 => ?_)
            generalize hDD : wr.drew = D at *
            clear hDD
            refine last.wpAnyL_take (i := 0) (v := (.pointer (some ⟨w2.heap.size, 3, none⟩))) rfl rfl (by kernel_rfl) (by kernel_rfl) (by kernel_rfl) (by kernel_rfl) (fun _ _ _ h => h) (Or.inl ⟨by rfl, ?_⟩) (by assumption) ?_
            · intro wq hSq; go_simp
            try simp only [Act.put, List.setIfInBounds_toArray, List.set_cons_zero, List.set_cons_succ]
            refine last.wpAnyL_take (i := 1) (v := (.slice (some ⟨bj, oj, none⟩) jn xjc)) rfl rfl (by kernel_rfl) (by kernel_rfl) (by kernel_rfl) (by kernel_rfl) (fun _ _ _ h => h) (Or.inl ⟨by rfl, ?_⟩) (by assumption) ?_
            · intro wq hSq; have q := (hSq.cell (p := ⟨w2.heap.size, 3, none⟩) (World.block_lt_of_cell? _ _ X3.out)).trans X3.out; go_simp
            try simp only [Act.put, List.setIfInBounds_toArray, List.set_cons_zero, List.set_cons_succ]
            refine last.wpAnyL_take (i := 2) (v := (.int .i64 (k : Int))) rfl rfl (by kernel_rfl) (by kernel_rfl) (by kernel_rfl) (by kernel_rfl) (fun _ _ _ h => h) (Or.inl ⟨by rfl, ?_⟩) (by assumption) ?_
            · intro wq hSq; go_simp
            try simp only [Act.put, List.setIfInBounds_toArray, List.set_cons_zero, List.set_cons_succ]
            refine last.wpAnyL_take (i := 3) (v := (.pointer (some ⟨bj, oj + k * 4, none⟩))) rfl rfl (by kernel_rfl) (by kernel_rfl) (by kernel_rfl) (by kernel_rfl) (fun _ _ _ h => h) (Or.inl ⟨by rfl, ?_⟩) (by assumption) ?_
            · intro wq hSq; go_simp
            try simp only [Act.put, List.setIfInBounds_toArray, List.set_cons_zero, List.set_cons_succ]
            refine last.wpAnyL_take (i := 4) (v := (.pointer (some ⟨bj, oj + k * 4 + 3, none⟩))) rfl rfl (by kernel_rfl) (by kernel_rfl) (by kernel_rfl) (by kernel_rfl) (fun _ _ _ h => h) (Or.inl ⟨by rfl, ?_⟩) (by assumption) ?_
            · intro wq hSq; go_simp
            try simp only [Act.put, List.setIfInBounds_toArray, List.set_cons_zero, List.set_cons_succ]
            refine last.wpAnyL_take (i := 5) (v := (.slice ya yl yc)) rfl rfl (by kernel_rfl) (by kernel_rfl) (by kernel_rfl) (by kernel_rfl) (fun _ _ _ h => h) (Or.inl ⟨by rfl, ?_⟩) (by assumption) ?_
            · intro wq hSq; have q := (hSq.cell (p := ⟨bj, oj + k * 4 + 3, none⟩) (World.block_lt_of_cell? _ _ J3.out)).trans J3.out; go_simp
            try simp only [Act.put, List.setIfInBounds_toArray, List.set_cons_zero, List.set_cons_succ]
            refine last.wpAnyL_take (i := 6) (v := (.int .i64 (yl : Int))) rfl rfl (by kernel_rfl) (by kernel_rfl) (by kernel_rfl) (by kernel_rfl) (fun _ _ _ h => h) (Or.inl ⟨by rfl, ?_⟩) (by assumption) ?_
            · intro wq hSq; go_simp
            try simp only [Act.put, List.setIfInBounds_toArray, List.set_cons_zero, List.set_cons_succ]
            refine last.wpAnyL_take (i := 7) (v := (.pointer (some ⟨w2.heap.size, 3, none⟩))) rfl rfl (by kernel_rfl) (by kernel_rfl) (by kernel_rfl) (by kernel_rfl) (fun _ _ _ h => h) (Or.inl ⟨by rfl, ?_⟩) (by assumption) ?_
            · intro wq hSq; go_simp
            try simp only [Act.put, List.setIfInBounds_toArray, List.set_cons_zero, List.set_cons_succ]
            refine last.wpAnyL_take (i := 8) (v := (.slice (some ⟨bj, oj, none⟩) jn xjc)) rfl rfl (by kernel_rfl) (by kernel_rfl) (by kernel_rfl) (by kernel_rfl) (fun _ _ _ h => h) (Or.inl ⟨by rfl, ?_⟩) (by assumption) ?_
            · intro wq hSq; have q := (hSq.cell (p := ⟨w2.heap.size, 3, none⟩) (World.block_lt_of_cell? _ _ X3.out)).trans X3.out; go_simp
            try simp only [Act.put, List.setIfInBounds_toArray, List.set_cons_zero, List.set_cons_succ]
            refine last.wpAnyL_take (i := 9) (v := (.int .i64 (k : Int))) rfl rfl (by kernel_rfl) (by kernel_rfl) (by kernel_rfl) (by kernel_rfl) (fun _ _ _ h => h) (Or.inl ⟨by rfl, ?_⟩) (by assumption) ?_
            · intro wq hSq; go_simp
            try simp only [Act.put, List.setIfInBounds_toArray, List.set_cons_zero, List.set_cons_succ]
            refine last.wpAnyL_take (i := 10) (v := (.pointer (some ⟨bj, oj + k * 4, none⟩))) rfl rfl (by kernel_rfl) (by kernel_rfl) (by kernel_rfl) (by kernel_rfl) (fun _ _ _ h => h) (Or.inl ⟨by rfl, ?_⟩) (by assumption) ?_
            · intro wq hSq; go_simp
            try simp only [Act.put, List.setIfInBounds_toArray, List.set_cons_zero, List.set_cons_succ]
            refine last.wpAnyL_take (i := 11) (v := (.pointer (some ⟨bj, oj + k * 4 + 1, none⟩))) rfl rfl (by kernel_rfl) (by kernel_rfl) (by kernel_rfl) (by kernel_rfl) (fun _ _ _ h => h) (Or.inl ⟨by rfl, ?_⟩) (by assumption) ?_
            · intro wq hSq; go_simp
            try simp only [Act.put, List.setIfInBounds_toArray, List.set_cons_zero, List.set_cons_succ]
            refine last.wpAnyL_take (i := 12) (v := (.slice (some ⟨ob, oo, none⟩) ol oc)) rfl rfl (by kernel_rfl) (by kernel_rfl) (by kernel_rfl) (by kernel_rfl) (fun _ _ _ h => h) (Or.inl ⟨by rfl, ?_⟩) (by assumption) ?_
            · intro wq hSq; have q := (hSq.cell (p := ⟨bj, oj + k * 4 + 1, none⟩) (World.block_lt_of_cell? _ _ J1.out)).trans J1.out; go_simp
            try simp only [Act.put, List.setIfInBounds_toArray, List.set_cons_zero, List.set_cons_succ]
            refine last.wpAnyL_take (i := 13) (v := (.pointer (some ⟨w2.heap.size, 0, none⟩))) rfl rfl (by kernel_rfl) (by kernel_rfl) (by kernel_rfl) (by kernel_rfl) (fun _ _ _ h => h) (Or.inl ⟨by rfl, ?_⟩) (by assumption) ?_
            · intro wq hSq; go_simp
            try simp only [Act.put, List.setIfInBounds_toArray, List.set_cons_zero, List.set_cons_succ]
            refine last.wpAnyL_take (i := 14) (v := (.int .i64 R.1)) rfl rfl (by kernel_rfl) (by kernel_rfl) (by kernel_rfl) (by kernel_rfl) (fun _ _ _ h => h) (Or.inl ⟨by rfl, ?_⟩) (by assumption) ?_
            · intro wq hSq; have q := (hSq.cell (p := ⟨w2.heap.size, 0, none⟩) (World.block_lt_of_cell? _ _ X0.out)).trans X0.out; go_simp
            try simp only [Act.put, List.setIfInBounds_toArray, List.set_cons_zero, List.set_cons_succ]
            refine last.wpAnyL_one (i := 15) (o := { dst := some 117, op := Op.call { callee := Callee.value (Operand.func 10), args := #[Operand.tmp 114, Operand.tmp 116], argTypes := #[34, 3] }, type := 35, pos := "laws.go:713", after := #[{ on := 12, ground := Ground.data }, { on := 14, ground := Ground.data }], guard := none }) (by kernel_rfl) rfl (fun K hK => ?_)
            refine stepg.call2 rfl 10 (.tmp 114) (.tmp 116) _ rfl (fun _ _ => rfl) (.slice (some ⟨ob, oo, none⟩) ol oc) (.int .i64 R.1) (by kernel_rfl) (by kernel_rfl) _ (HSH.out _ hdW) ?_
            rintro e w6 ⟨gs, ns, cs, rfl, hZ, hb6'⟩
            refine ⟨_, rfl, ?_⟩
            have hb6 := hdW.trans (hb6'.mono hdW.size)
            have hzl := hZ.1
            have hns : Hid (yy = true → ((yl : Int) == (ns : Int)) = true) := fun e => by
              have h1 := (HALL.out e).1
              have h2 := HYL.out
              simp
              omega
            refine hK.out _ _ ?_ (fun hHeld => ?_)
            · exact hb6
            clear hK K hHeld0
            have hHeld0 := hHeld
            clear hHeld
            try simp only [Act.put, List.setIfInBounds_toArray, List.set_cons_zero, List.set_cons_succ]
            refine last.wpAnyL_one (i := 16) (o := { dst := some 118, op := Op.call { callee := Callee.builtin Builtin.len, args := #[Operand.tmp 117], argTypes := #[35] }, type := 3, pos := "laws.go:713", after := #[{ on := 15, ground := Ground.data }], guard := none }) (by kernel_rfl) rfl (fun K hK => ?_)
            go_simp
            refine hK.out _ _ ?_ (fun hHeld => ?_)
            · exact hb6
            clear hK K hHeld0
            have hHeld0 := hHeld
            clear hHeld
            try simp only [Act.put, List.setIfInBounds_toArray, List.set_cons_zero, List.set_cons_succ]
            refine last.wpAnyL_one (i := 17) (o := { dst := some 119, op := Op.binOp BinOp.eql 3 (Operand.tmp 108) (Operand.tmp 118) 3, type := 4, pos := "laws.go:713", after := #[{ on := 6, ground := Ground.data }, { on := 16, ground := Ground.data }], guard := none }) (by kernel_rfl) rfl (fun K hK => ?_)
            go_simp
            refine hK.out _ _ ?_ (fun hHeld => ?_)
            · exact hb6
            clear hK K hHeld0
            have hHeld0 := hHeld
            clear hHeld
            try simp only [Act.put, List.setIfInBounds_toArray, List.set_cons_zero, List.set_cons_succ]
            refine last.wpAnyL_last (o := { dst := some 12, op := Op.assign (Operand.tmp 119), type := 4, pos := "laws.go:713", after := #[{ on := 17, ground := Ground.data }, { on := 15, ground := Ground.chain }, { on := 0, ground := Ground.phase }, { on := 1, ground := Ground.phase }, { on := 2, ground := Ground.phase }, { on := 3, ground := Ground.phase }, { on := 4, ground := Ground.phase }, { on := 5, ground := Ground.phase }, { on := 6, ground := Ground.phase }, { on := 7, ground := Ground.phase }, { on := 8, ground := Ground.phase }, { on := 9, ground := Ground.phase }, { on := 10, ground := Ground.phase }, { on := 11, ground := Ground.phase }, { on := 12, ground := Ground.phase }, { on := 13, ground := Ground.phase }, { on := 14, ground := Ground.phase }, { on := 15, ground := Ground.phase }, { on := 16, ground := Ground.phase }, { on := 17, ground := Ground.phase }], guard := none }) (by kernel_rfl) rfl (by kernel_rfl) (fun K hK => ?_)
            go_simp
            refine hK.out _ _ ?_
            clear hK K
            clear hHeld0
            have l0 := (hb6.cell (p := ⟨v4.heap.size, 0, none⟩) (World.block_lt_of_cell? _ _ L0.out)).trans L0.out
            have l1 := (hb6.cell (p := ⟨v4.heap.size, 1, none⟩) (World.block_lt_of_cell? _ _ L1.out)).trans L1.out
            have x3 := (hb6.cell (p := ⟨w2.heap.size, 3, none⟩) (World.block_lt_of_cell? _ _ X3.out)).trans X3.out
            have j2 := (hb6.cell (p := ⟨bj, oj + k * 4 + 2, none⟩) (World.block_lt_of_cell? _ _ J2.out)).trans J2.out
            have htt : (tx == tx) = true := by simp
            have hBr6 := hBr.trans (hb6.mono hBr.size)
            cases yy
            · generalize ((yl : Int) == (ns : Int)) = bb at *
              go_wp2_with fail
              go_ret
              exact ⟨rfl, hBr6⟩
            · have hq := hns.out rfl
              have hst : (R.2.2.2.1[k].2.2.1 == 2) = true := by rw [(HALL.out rfl).2]; rfl
              rw [hq]
              generalize R.2.2.2.1[k].2.2.1 = st at *
              go_wp2_with fail
              go_ret
              exact ⟨rfl, hBr6⟩
          · have heq : (R.2.2.2.1[k].1 == tx) = false := beq_eq_false_iff_ne.2 (HKNO.out k (by omega))
            generalize R.2.2.2.1[k].1 = tj at *
            clear j1 j2 j3 x0 hSo hSy
            go_wp2_with fail
            go_roundw
            case rel => exact ⟨k + 1, by omega, by go_num, hbr2⟩
            case measure => simp [intOf]; omega

theorem own : ownKnob Try.prog.godebug = none := by kernel_rfl
theorem laidOut : laidOutB Try.prog = true := by kernel_rfl

set_option maxRecDepth 100000 in
theorem lifted (os : Os) (started : os.Started) (H : Type) (enc : TypeId × Value → H) :
    ReturnsInHanded {} Try.checked os 3 .any (Rows.fnVotedSpec.pre6 enc Try.prog Try.f3 Rows.fnVotedRow.domain false) (Rows.fnVotedSpec.post enc Try.prog Try.f3 false true false false) := by
  refine returnsInHanded_of_change (C := Try.checked) own started (by kernel_rfl) Try.func3
    (ChangeSpec.witness6 (enc := enc) (C := Try.checked) false ⟨#[], #[.slice none 0 0], []⟩ 8 (by kernel_rfl) (by kernel_rfl) (by kernel_rfl) (by kernel_rfl)) ?_
  intro W base args ds gs before hval0 hW hcnd _
  have hval : ∀ (j : Nat) t v, Try.f3.params[j]? = some t → args[j]? = some v → Value.okWide Try.prog W .any base t v := hval0
  have hW' := hW
  obtain ⟨p, q, hA0, hV, rfl, hfz, hnd⟩ := hW
  have hA : DataW.TrodAll enc Try.prog W 0 (fun _ => true) true Try.f3.params.toList args.toList ds p := hA0
  rw [Try.params3] at hA hval
  obtain ⟨v0, vs0, d0, ds0, p0, q0, hargs, rfl, rfl, h0, r0⟩ := trodAll_cons hA
  obtain ⟨rfl, rfl, rfl⟩ := trodAll_nil r0
  obtain rfl : args = #[v0] := by cases args; simp_all
  obtain ⟨rfl, rfl⟩ := trodVars_none hV
  obtain ⟨a0, len0, cap0, rfl⟩ := okWide_slice Try.underlying22 (hval 0 22 v0 rfl rfl)
  have k0 := h0
  have lt0 : ∀ x ∈ p0, x.block < W.heap.size := by obtain ⟨m, hm⟩ := k0; exact DataW.trod_lt m _ _ _ hm
  obtain ⟨b0, w0⟩ : ∃ bs, Sl W a0 len0 bs := by
    obtain ⟨fuel, hf⟩ := h0
    rcases open_ints Try.underlying22 Try.underlying5 (by kernel_rfl) hf with ⟨hcs, _⟩ | ⟨x, l, c, zs, hcs, _, hl, hm, hz, _, hcell, hwz⟩
    · simp [Value.cells] at hcs
      obtain ⟨rfl, rfl, rfl⟩ := hcs
      exact ⟨[], sl_nil _ _⟩
    · simp [Value.cells] at hcs
      obtain ⟨rfl, rfl, rfl⟩ := hcs
      exact ⟨_, sl_of_ints hl hm (by simpa using hz) hcell hwz⟩
  clear hA0 hval0
  refine (walk a0 len0 cap0 b0 W w0).mono fun e W' ⟨he, bel⟩ => ?_
  subst he
  exact ⟨_, rfl, _, _, _, [], _, [], hW', trodAll_mk1 (shut_bool Try.underlying4 _), (trodAll_cons_mk (Below.trod laidOut (by kernel_rfl) (of_decide_eq_true (by kernel_rfl)) k0 bel lt0) trodAll_mk0), rfl, bel.frame _, fun h => by cases h⟩

theorem over : Rows.fnVotedRow.holds Try.pinned (OpenSpec.ofChange Rows.fnVotedSpec) :=
  OpenClaim.holds_of_wide 3 Try.f3 rfl rfl rfl rfl rfl rfl rfl ⟨rfl, rfl, rfl, rfl, rfl⟩ rfl rfl rfl rfl rfl (by kernel_rfl) Try.func3 (by kernel_rfl)
    (of_decide_eq_true (by kernel_rfl)) (by unfold Func.isWrapper; first | (rw [if_pos (by decide +kernel)]; kernel_rfl) | (rw [if_neg (by decide +kernel)]; exact ⟨rfl, rfl⟩))
    (fun os started H enc _ => lifted os started H enc)

theorem proved : Rows.FnVotedSaid := over
end Go.Proofs.Ytdeaiefhegjalaa.fnVoted
