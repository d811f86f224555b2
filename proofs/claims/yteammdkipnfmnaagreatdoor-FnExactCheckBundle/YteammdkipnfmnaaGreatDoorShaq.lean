/- What the exact law of CheckBundle keeps from step to step, and its walk over the program's contract. Bundles: the parts of all shards, one behind the other. Mathematics. Slices of pairs as elements of rows. No function of the program is named here. The program's seals: the digest of all roots. The program's seals: their parts. The program's keys and pairs: what is right. The program's orders: what is right. The specification's orders: what is done, and those of a shard. -/
import Derived.Test.YteammdkipnfmnaaGreatDoorShal
import Derived.Test.YteammdkipnfmnaaGreatDoorShan
import Derived.Test.YteammdkipnfmnaaGreatDoorShao
import Derived.Test.YteammdkipnfmnaaGreatDoorShap
import Derived.Deep.RegionHeld3
import Derived.Test.YteammdkipnfmnaaGreatDoorShaj
import Derived.Test.YteammdkipnfmnaaGreatDoorShaf
import Derived.Test.YteammdkipnfmnaaGreatDoorShag
import Derived.Test.YteammdkipnfmnaaGreatDoorShac
import Derived.Test.YteammdkipnfmnaaGreatDoorShae
import Derived.Laws.StructEq
import Derived.Test.YteammdkipnfmnaaGreatDoorShah
import Derived.Test.YteammdkipnfmnaaGreatDoorShak
namespace Go.Proofs.YteammdkipnfmnaaGreatDoor.bun
open Go Go.RowKit Go.Proofs.YteammdkipnfmnaaGreatDoor.base Go.Proofs.YteammdkipnfmnaaGreatDoor.pairs Go.Proofs.YteammdkipnfmnaaGreatDoor.lay Go.Proofs.YteammdkipnfmnaaGreatDoor.range Go.Proofs.YteammdkipnfmnaaGreatDoor.seals
set_option linter.unusedVariables false
set_option linter.unusedSimpArgs false

structure PentB (w0 w : World) (A bx : Nat) (av us : List Value) (X : Bun) (FX : List Nat) (S G : List Pr) (gw lw cw gg lg cg : Nat) : Prop where
  bel : Below w0.heap.size w0 w
  arg : BoxIn A 38 [] av [] w
  vx : BoxIn bx 27 [] us [] w
  x : bundleR.own w us X FX
  s : OwnP w w0.heap.size gw lw cw S
  g : OwnP w w0.heap.size gg lg cg G
  newX : ∀ k ∈ FX, w0.heap.size ≤ k
  dX : A ∉ FX ∧ bx ∉ FX ∧ gw ∉ FX ∧ gg ∉ FX
  dG : gg ≠ A ∧ gg ≠ bx ∧ gg ≠ gw
section
variable {w0 w w' : World} {A bx : Nat} {av us : List Value} {X : Bun} {FX : List Nat} {S G : List Pr} {gw lw cw gg lg cg : Nat}
theorem PentB.below (h : PentB w0 w A bx av us X FX S G gw lw cw gg lg cg) (hb : Below w.heap.size w w') : PentB w0 w' A bx av us X FX S G gw lw cw gg lg cg :=
  ⟨h.bel.trans (hb.mono h.bel.size), h.arg.below hb, h.vx.below hb, bundleR.ownBelow h.x hb, h.s.below hb, h.g.below hb, h.newX, h.dX, h.dG⟩
theorem PentB.markX {X' : Bun} (h : PentB w0 w A bx av us X FX S G gw lw cw gg lg cg) (ho : bundleR.own w' us X' FX) (hf : lay.Frame FX w w') : PentB w0 w' A bx av us X' FX S G gw lw cw gg lg cg :=
  ⟨h.bel.trans (hf.bel h.bel.size h.newX), h.arg.frame hf h.dX.1, h.vx.frame hf h.dX.2.1, ho, ownP_of_block h.s (hf.block gw h.s.lt.2 h.dX.2.2.1), ownP_of_block h.g (hf.block gg h.g.lt.2 h.dX.2.2.2), h.newX, h.dX, h.dG⟩
theorem PentB.markG {G' : List Pr} (h : PentB w0 w A bx av us X FX S G gw lw cw gg lg cg) (ho : OwnP w' w0.heap.size gg lg cg G') (hg : w.grownBy w' (some gg)) : PentB w0 w' A bx av us X FX S G' gw lw cw gg lg cg :=
  ⟨h.bel.grown hg h.bel.size (fun k e => by cases e; exact h.g.lt.1), h.arg.grown hg (fun e => h.dG.1 (by cases e; rfl)), h.vx.grown hg (fun e => h.dG.2.1 (by cases e; rfl)), bundleR.ownGrown h.x hg (fun k hk e => h.dX.2.2.2 (by cases e; exact hk)), ownP_of_block h.s (hg.block gw h.s.lt.2 (fun e => h.dG.2.2 (by cases e; rfl))), ho, h.newX, h.dX, h.dG⟩
end
def ImplCheck : Prop := ∀ (super lo hi : ByteArray) (ra : Option Addr) (rn rc : Nat) (pa : Option Addr) (pn pc : Nat) (x : Bun) (w : World), (Lit.int .i64 x.1).wf = true → super.size ≤ 1048576 → lo.size ≤ 1048576 → hi.size ≤ 1048576 → x.2.1.size ≤ 1048576 → SlS w ra rn x.2.2.1 → x.2.2.1.length + puttexts.sum x.2.2.1 ≤ 1048576 → PJ w pa pn x.2.2.2 → (∀ f ∈ x.2.2.2, f.2.2.length ≤ 1048576) → rn ≤ rc → pn ≤ pc → sha.KW w →
  Calls Tryz.prog 7 #[.string super, .string lo, .string hi, .agg #[.int .i64 x.1, .string x.2.1, .slice ra rn rc, .slice pa pn pc]] w (CPost w (checkB super lo hi x))
theorem sum_len {super lo hi : ByteArray} {x : Bun} (hps : ∀ f ∈ x.2.2.2, f.2.2.length ≤ 1048576) : ∀ l, checkB super lo hi x = some l → l.length ≤ 8388608 := by
  intro l hl
  unfold checkB at hl
  split at hl
  · rename_i hc
    have key : ∀ k o, sumB x.2.2.1.length lo hi x.2.2.1 x.2.2.2 k = some o → o.length ≤ k * 1048576 := by
      intro k
      induction k with
      | zero => intro o ho; cases ho; exact Nat.zero_le _
      | succ k ih =>
        intro o ho
        unfold sumB at ho
        split at ho
        · rename_i o1 l1 h1 h2
          cases ho
          have h3 := ih o1 h1
          have h4 := union_len o1 l1
          have h5 : l1.length ≤ 1048576 := by
            unfold partB at h2
            split at h2
            · rename_i r f hr hf
              split at h2
              · rename_i l2 hck
                split at h2
                · cases h2
                  exact Nat.le_trans (check_len hck) (hps f (List.mem_of_getElem? hf))
                · cases h2
              · cases h2
            · cases h2
          rw [Nat.add_mul]; omega
        · cases ho
    have := key _ _ hl
    have h8 := hc.2.1.2
    have : x.2.2.1.length * 1048576 ≤ 8 * 1048576 := Nat.mul_le_mul_right _ h8
    omega
  · cases hl
theorem keep8 {w w' : World} {b c : Nat} {x0 x1 x2 x3 y0 y1 y2 y3 : Value} (hb : Below w.heap.size w w') (h : w.cell? ⟨b, 0, none⟩ = some x0 ∧ w.cell? ⟨b, 1, none⟩ = some x1 ∧ w.cell? ⟨b, 2, none⟩ = some x2 ∧ w.cell? ⟨b, 3, none⟩ = some x3 ∧ w.cell? ⟨c, 0, none⟩ = some y0 ∧ w.cell? ⟨c, 1, none⟩ = some y1 ∧ w.cell? ⟨c, 2, none⟩ = some y2 ∧ w.cell? ⟨c, 3, none⟩ = some y3) :
    w'.cell? ⟨b, 0, none⟩ = some x0 ∧ w'.cell? ⟨b, 1, none⟩ = some x1 ∧ w'.cell? ⟨b, 2, none⟩ = some x2 ∧ w'.cell? ⟨b, 3, none⟩ = some x3 ∧ w'.cell? ⟨c, 0, none⟩ = some y0 ∧ w'.cell? ⟨c, 1, none⟩ = some y1 ∧ w'.cell? ⟨c, 2, none⟩ = some y2 ∧ w'.cell? ⟨c, 3, none⟩ = some y3 := by
  have k : ∀ {g o : Nat} {v : Value}, w.cell? ⟨g, o, none⟩ = some v → w'.cell? ⟨g, o, none⟩ = some v := fun {g o v} hv => (hb.cell (p := ⟨g, o, none⟩) (World.block_lt_of_cell? w _ hv)).trans hv
  exact ⟨k h.1, k h.2.1, k h.2.2.1, k h.2.2.2.1, k h.2.2.2.2.1, k h.2.2.2.2.2.1, k h.2.2.2.2.2.2.1, k h.2.2.2.2.2.2.2⟩
theorem bound_bu {x : Bun} (h : bsz x ≤ 1048576) : x.2.1.size ≤ 1048576 ∧ x.2.2.1.length + puttexts.sum x.2.2.1 ≤ 1048576 ∧ x.2.2.2.length ≤ 1048576 ∧ (∀ f ∈ x.2.2.2, f.2.2.length ≤ 1048576 ∧ ∀ y ∈ f.2.2, limI y ∧ y.2.length ≤ 1048576) := by
  unfold bsz at h
  refine ⟨by omega, by omega, by omega, fun f hf => ?_⟩
  have h1 := sumF_mem hf
  unfold pfz at h1
  refine ⟨by omega, fun y hy => ?_⟩
  have h2 := isz_le f.2.2 y hy
  unfold isz psz at h2
  exact ⟨⟨⟨by omega, by omega⟩, fun s hs => by have := puttexts.size_le_sum y.2 s hs; omega⟩, by omega⟩
theorem cntB_le {x : Bun} (h : bsz x ≤ 1048576) : cntB x ≤ 8388608 := by
  have key : ∀ (l : List It), cnt l ≤ 2 * l.length + sumI l := by
    intro l
    induction l with
    | nil => simp [cnt, sumI]
    | cons x l ih =>
      rw [cnt_cons, List.length_cons]
      have : sumI (x :: l) = isz x + sumI l := by simp [sumI]
      rw [this]; unfold isz; omega
  have key2 : ∀ (l : List Pf), cntAll cntF l ≤ 2 * l.length + 2 * sumF l := by
    intro l
    induction l with
    | nil => simp [cntAll, sumF]
    | cons f l ih =>
      have h1 : cntAll cntF (f :: l) = cntF f + cntAll cntF l := by simp [cntAll]
      have h2 : sumF (f :: l) = pfz f + sumF l := by simp [sumF]
      have h3 := key f.2.2
      have h4 : cntF f = 2 + cnt f.2.2 := rfl
      have h5 : pfz f = f.2.2.length + sumI f.2.2 := rfl
      rw [h1, h2, List.length_cons]
      omega
  have h1 := key2 x.2.2.2
  unfold bsz at h
  unfold cntB
  omega
set_option maxRecDepth 100000 in
set_option maxHeartbeats 12000000 in
theorem walkCheck (hImp : ImplCheck) (super lo hi : ByteArray) (ra : Option Addr) (rn rc : Nat) (pa : Option Addr) (pn pc : Nat) (x : Bun) (w : World) (z0 : super.size ≤ maxLen) (z1 : lo.size ≤ maxLen) (z2 : hi.size ≤ maxLen) (h : SeeBu w ra rn rc pa pn pc x) (hK : sha.KW w) :
    Calls Tryz.prog 4 #[.string super, .string lo, .string hi, .agg #[.int .i64 x.1, .string x.2.1, .slice ra rn rc, .slice pa pn pc]] w fun e w' => e = .returned (.bool true) ∧ Below w.heap.size w w' := by
  have hrl := h.roots.1
  have hpl := h.proofs.1
  obtain ⟨W, hW⟩ : ∃ W, w.alloc (.cells #[.int .i64 x.1, .string x.2.1, .slice ra rn rc, .slice pa pn pc] 38) = W := ⟨_, rfl⟩
  have hBW : Below w.heap.size w W := by rw [← hW]; exact below_make
  have hV : BoxIn w.heap.size 38 [] [.int .i64 x.1, .string x.2.1, .slice ra rn rc, .slice pa pn pc] [] W := by rw [← hW]; exact boxIn_new w _ _
  have HW := Hid.mk' hW
  unfold maxLen at z0 z1 z2
  by_cases hr : (1048576 : Int) < (super.size : Int)
  · rw [← hW] at hBW
    clear hW hV HW
    go_enter Tryz.func4, Tryz.ntmps4
    go_wp2_with fail
    go_ret
    exact ⟨rfl, hBW⟩
  by_cases hlo : (1048576 : Int) < (lo.size : Int)
  · rw [← hW] at hBW
    clear hW hV HW
    go_enter Tryz.func4, Tryz.ntmps4
    go_wp2_with fail
    go_ret
    exact ⟨rfl, hBW⟩
  by_cases hhi : (1048576 : Int) < (hi.size : Int)
  · rw [← hW] at hBW
    clear hW hV HW
    go_enter Tryz.func4, Tryz.ntmps4
    go_wp2_with fail
    go_ret
    exact ⟨rfl, hBW⟩
  have hsz := szBundle ra rn rc pa pn pc x 1048576 W (h.below hBW) (by omega)
  obtain ⟨c0, c1, c2, c3⟩ := box4 hV
  rw [← hW] at c0 c1 c2 c3
  clear hW
  by_cases hover : 1048576 < bsz x
  · rw [szR_neg hover] at hsz
    have HZ := Hid.mk' hsz
    clear hsz
    go_enter Tryz.func4, Tryz.ntmps4
    go_wp2_with fail
    rw [HW.out]
    refine HZ.out.mono ?_
    rintro e wa ⟨rfl, hB⟩
    have hB1 := hBW.trans (hB.mono hBW.size)
    go_wp2_with fail
    go_ret
    exact ⟨rfl, hB1⟩
  rw [szR_pos (by omega)] at hsz
  obtain ⟨r, hrr⟩ : ∃ r : Nat, ((1048576 : Nat) : Int) - (bsz x : Int) = (r : Int) := ⟨1048576 - bsz x, by omega⟩
  rw [hrr] at hsz
  have HZ := Hid.mk' hsz
  clear hsz hrr
  obtain ⟨hb1, hb2, hb3, hb4⟩ := bound_bu (x := x) (by omega)
  have hcb := cntB_le (x := x) (by omega)
  have hno := h.no
  have HTB := Hid.mk' (fun wx (hx : Below w.heap.size w wx) => toBundle ra rn rc pa pn pc x wx (h.below hx) (by omega) (by omega) (fun j hj => ⟨by have := (hb4 j hj).1; omega, fun y hy => by have := ((hb4 j hj).2 y hy).2; omega⟩))
  have HJ : Hid (∀ wx ya yn yc qa qn qc F, bundleR.own wx [.int .i64 x.1, .string x.2.1, .slice ya yn yc, .slice qa qn qc] x F → SeeBu wx ya yn yc qa qn qc x ∧ PJ wx qa qn x.2.2.2) := fun wx ya yn yc qa qn qc F ho => by
    refine ⟨see_bu (bundleR.ownSee ho), ?_⟩
    obtain ⟨v1, v2, F1, F2, e, _, _, _, _, h4, _⟩ := bundle_own.1 ho
    simp only [List.cons.injEq, and_true, true_and] at e
    obtain ⟨rfl, rfl⟩ := e
    obtain ⟨v, q, e, _, hO⟩ := h4
    cases e
    exact pj_own (v := .slice none 0 0) hO (fun f hf => ⟨by have := (hb4 f hf).1; omega, fun y hy => ((hb4 f hf).2 y hy).1⟩)
  have HSC := Hid.mk' (fun ya yn yc qa qn qc F wx (ho : bundleR.own wx [.int .i64 x.1, .string x.2.1, .slice ya yn yc, .slice qa qn qc] x F) => spec_checkBundle super lo hi ya yn yc qa qn qc x wx hno hb1 (HJ.out wx ya yn yc qa qn qc F ho).1.roots hb2 (HJ.out wx ya yn yc qa qn qc F ho).2 (fun f hf => (hb4 f hf).1))
  have HIC := Hid.mk' (fun ya yn yc qa qn qc F wx (ho : bundleR.own wx [.int .i64 x.1, .string x.2.1, .slice ya yn yc, .slice qa qn qc] x F) (hk : sha.KW wx) => hImp super lo hi ya yn yc qa qn qc x wx hno (by omega) (by omega) (by omega) hb1 (HJ.out wx ya yn yc qa qn qc F ho).1.roots hb2 (HJ.out wx ya yn yc qa qn qc F ho).2 (fun f hf => (hb4 f hf).1) (HJ.out wx ya yn yc qa qn qc F ho).1.rc (HJ.out wx ya yn yc qa qn qc F ho).1.pc hk)
  have HKW : Hid (∀ wx, Below w.heap.size w wx → sha.KW wx) := fun wx hx => hK.below hx
  have hrlx := sum_len (super := super) (lo := lo) (hi := hi) (x := x) (fun f hf => (hb4 f hf).1)
  have HPF : Hid (∀ y ∈ x.2.2.2, y.2.2.length ≤ 1099511627776) := fun y hy => by have := (hb4 y hy).1; omega
  generalize checkB super lo hi x = R at *
  obtain ⟨rows, hrows⟩ : ∃ rows, R.getD [] = rows := ⟨_, rfl⟩
  have hrl2 : rows.length ≤ 8388608 := by
    rw [← hrows]
    cases R with
    | none => simp
    | some G => exact hrlx G rfl
  obtain ⟨ok, hok⟩ : ∃ ok, R.isSome = ok := ⟨_, rfl⟩
  have HRW := Hid.mk' hrows
  have HOK := Hid.mk' hok
  clear hrlx hrows hok h z0 z1 z2 hb1 hb2 hb3 hb4 hno hrl hpl hover
  cases ok
  all_goals
    go_enter Tryz.func4, Tryz.ntmps4
    go_wp2_with fail
    rw [HW.out]
    refine HZ.out.mono ?_
    rintro e wa ⟨rfl, hba⟩
    have hBa := hBW.trans (hba.mono hBW.size)
    have HVa := Hid.mk' (hV.below hba)
    clear hba c0 c1 c2 c3 hBW hV HZ HW
    obtain ⟨d0, d1, d2, d3⟩ := box4 HVa.out
    go_wp2_with fail
    refine (HTB.out _ hBa).mono ?_
    rintro e wb ⟨us1, F1, rfl, hO1, hF1, hb1⟩
    obtain ⟨ya1, yn1, yc1, qa1, qn1, qc1, rfl⟩ := bundle_shape hO1
    have hBb := hBa.trans (hb1.mono hBa.size)
    have HVb := Hid.mk' (HVa.out.below hb1)
    have HS1 := Hid.mk' (HSC.out _ _ _ _ _ _ _ _ hO1)
    clear hO1 hb1 HVa d0 d1 d2 d3 hF1
    go_wp2_with fail
    refine HS1.out.mono ?_
    rintro e wc ⟨hbc, gw, lw, cw, rfl, hOw⟩
    rw [HRW.out] at hOw
    rw [HOK.out]
    have hBc := hBb.trans (hbc.mono hBb.size)
    have HVc := Hid.mk' (HVb.out.below hbc)
    have HOW := Hid.mk' (hOw.mono (base' := w.heap.size) hBb.size)
    clear hOw hbc HVb HS1 hBb
    obtain ⟨d0, d1, d2, d3⟩ := box4 HVc.out
    go_wp2_with fail
    refine (HTB.out _ hBc).mono ?_
    rintro e wd ⟨us2, F2, rfl, hO2, hF2, hb2⟩
    obtain ⟨ya, yn, yc, qa, qn, qc, rfl⟩ := bundle_shape hO2
    have hBd := hBc.trans (hb2.mono hBc.size)
    obtain ⟨U, hU⟩ : ∃ U, wd.alloc (.cells #[.int .i64 x.1, .string x.2.1, .slice ya yn yc, .slice qa qn qc] 27) = U := ⟨_, rfl⟩
    have hbu : Below wd.heap.size wd U := by rw [← hU]; exact below_make
    have hvx : BoxIn wd.heap.size 27 [] [.int .i64 x.1, .string x.2.1, .slice ya yn yc, .slice qa qn qc] [] U := by rw [← hU]; exact boxIn_new wd _ _
    have hBu := hBd.trans (hbu.mono hBd.size)
    have hO3 := bundleR.ownBelow hO2 hbu
    have HI1 := Hid.mk' (HIC.out _ _ _ _ _ _ _ _ hO3 (HKW.out _ hBu))
    have HOX := Hid.mk' hO3
    have HLX : Hid (∀ k ∈ F2, wc.heap.size ≤ k ∧ k < wd.heap.size) := fun k hk => ⟨hF2 k hk, bundleR.ownLt hO2 k hk⟩
    have HOW2 := Hid.mk' ((HOW.out.below hb2).below hbu)
    have HVX := Hid.mk' hvx
    have HAX := Hid.mk' ((HVc.out.below hb2).below hbu)
    have hs1a := HOW.out.lt.2
    have hs2a := HVc.out.lt
    have hs3a := hb2.size
    have hs4a := hBc.size
    have HU := Hid.mk' hU
    obtain ⟨v0, v1, v2, v3⟩ := box4 hvx
    rw [← hU] at v0 v1 v2 v3
    clear hO2 hO3 hb2 hBd hbu hvx HOW HVc d0 d1 d2 d3 hBc hU hF2
    go_wp2_with fail
    rw [HU.out]
    refine HI1.out.mono ?_
    rintro e we ⟨hbg, gg, lg, cg, rfl, hOg⟩
    rw [HRW.out] at hOg
    rw [HOK.out]
    have hgl := hOg.lt.1
    have hUs : U.heap.size = wd.heap.size + 1 := by rw [← HU.out]; simp
    have T1 : PentB w we w.heap.size wd.heap.size [.int .i64 x.1, .string x.2.1, .slice ra rn rc, .slice pa pn pc] [.int .i64 x.1, .string x.2.1, .slice ya yn yc, .slice qa qn qc] x F2 rows rows gw lw cw gg lg cg :=
      ⟨hBu.trans (hbg.mono hBu.size), HAX.out.below hbg, HVX.out.below hbg, bundleR.ownBelow HOX.out hbg, HOW2.out.below hbg, hOg.mono hBu.size, fun k hk => by have := (HLX.out k hk).1; omega, ⟨fun hk => by have := (HLX.out _ hk).1; omega, fun hk => by have := (HLX.out _ hk).2; omega, fun hk => by have := (HLX.out _ hk).1; omega, fun hk => by have := (HLX.out _ hk).2; omega⟩, by omega, by omega, by omega⟩
    have hlg : lg ≤ 8388608 := by have := hOg.1; omega
    clear hbg hOg HOX HOW2 HVX HAX HLX hs1a hs2a hs3a hs4a hBu hgl hUs v0 v1 v2 v3 HU HI1
    have HT1 := Hid.mk' T1
    clear T1
    go_wp2_with fail
    refine (eqP _ _ _ _ _ _ _ _ _ HT1.out.g.sl HT1.out.s.sl rfl).mono ?_
    rintro e y2 ⟨rfl, hB⟩
    have T2 := HT1.out.below hB
    clear HT1 hB
    have HT2 := Hid.mk' T2
    clear T2
    obtain ⟨p0, p1, p2, p3⟩ := box4 HT2.out.vx
    obtain ⟨q0, q1, q2, q3⟩ := box4 HT2.out.arg
    have hbl := HT2.out.bel
    have hdr : Below y2.heap.size y2 y2.drew := (Below.refl _ _).drew
    go_wp2_with fail
    go_region_held3 (fun w' => (w'.cell? ⟨wd.heap.size, 0, none⟩ = some (.int .i64 x.1) ∧ w'.cell? ⟨wd.heap.size, 1, none⟩ = some (.string x.2.1) ∧ w'.cell? ⟨wd.heap.size, 2, none⟩ = some (.slice ya yn yc) ∧ w'.cell? ⟨wd.heap.size, 3, none⟩ = some (.slice qa qn qc) ∧ w'.cell? ⟨w.heap.size, 0, none⟩ = some (.int .i64 x.1) ∧ w'.cell? ⟨w.heap.size, 1, none⟩ = some (.string x.2.1) ∧ w'.cell? ⟨w.heap.size, 2, none⟩ = some (.slice ra rn rc) ∧ w'.cell? ⟨w.heap.size, 3, none⟩ = some (.slice pa pn pc))) (first | (exact keep8 hb4 (by assumption)) | (exact keep8 hb3 (by assumption)) | (go_keep)) (first | (go_at_call 13; have h9 := hb3; refine (eqBundleT ya yn yc qa qn qc _ _ _ _ _ _ x _ (see_bu (bundleR.ownSee ((HT2.out.below (hdr.trans (hb3.mono hdr.size))).x))) (see_bu (bundleR.ownSee HO3.out))).mono ?_; rintro e y4 ⟨rfl, hb4⟩) | (go_at_call 11; refine (HTB.out _ (hbl.trans (hdr.mono hbl.size))).mono ?_; rintro e y3 ⟨us3, F3, rfl, hO3, hF3, hb3⟩; obtain ⟨za, zn, zc, za2, zn2, zc2, rfl⟩ := bundle_shape hO3; have HO3 := Hid.mk' hO3))
    have T4 := (HT2.out.below (hdr.trans (hb3.mono hdr.size))).below hb4
    clear HT2 hb3 hb4 HO3 hO3 hF3 hdr hbl
    clear p0 p1 p2 p3 q0 q1 q2 q3
    have HT4 := Hid.mk' T4
    clear T4
    obtain ⟨p0, p1, p2, p3⟩ := box4 HT4.out.vx
    have HMB := Hid.mk' (show Calls Tryz.prog 14 #[.agg #[.int .i64 x.1, .string x.2.1, .slice ya yn yc, .slice qa qn qc], .int .i64 1] y4 _ from markBundle [.int .i64 x.1, .string x.2.1, .slice ya yn yc, .slice qa qn qc] x F2 1 y4 HT4.out.x (by omega) (by omega) HPF.out)
    go_wp2_with fail
    refine HMB.out.mono ?_
    rintro e y5 ⟨rfl, ho5, hk5⟩
    have T5 := HT4.out.markX ho5 hk5
    clear HT4 ho5 hk5 HMB
    clear p0 p1 p2 p3
    have HT5 := Hid.mk' T5
    clear T5
    have hkp : ¬ ((1 + cntB x : Nat) : Int) < 0 := by omega
    generalize ((1 + cntB x : Nat) : Int) = KM at *
    go_wp2_with fail
    refine (eqP _ _ _ _ _ _ _ _ _ HT5.out.g.sl HT5.out.s.sl rfl).mono ?_
    rintro e y6 ⟨rfl, hB⟩
    have T6 := HT5.out.below hB
    clear HT5 hB
    have HT6 := Hid.mk' T6
    clear T6
    go_wp2_with fail
    refine (markP _ _ _ _ 1 _ _ HT6.out.g (by omega) (by omega) (by omega) _ (by show _ = _; rfl)).mono ?_
    rintro e y7 ⟨rfl, hx7, hg7⟩
    have T7 := HT6.out.markG hx7 hg7
    clear HT6 hx7 hg7
    have HT7 := Hid.mk' T7
    clear T7
    go_wp2_with fail
    refine (heldP _ _ _ _ HT7.out.g.sl (by omega)).mono ?_
    rintro e y8 ⟨rfl, hB⟩
    have T8 := HT7.out.below hB
    clear HT7 hB
    have HT8 := Hid.mk' T8
    clear T8
    obtain ⟨q0, q1, q2, q3⟩ := box4 HT8.out.arg
    go_wp2_with fail
    refine (HTB.out _ HT8.out.bel).mono ?_
    rintro e y9 ⟨us9, F9, rfl, hO9, hF9, hb9⟩
    obtain ⟨za, zn, zc, za2, zn2, zc2, rfl⟩ := bundle_shape hO9
    have T9 := HT8.out.below hb9
    have HI9 := Hid.mk' (HIC.out _ _ _ _ _ _ _ _ hO9 (HKW.out _ T9.bel))
    clear HT8 hb9 hO9 hF9
    clear q0 q1 q2 q3
    have HT9 := Hid.mk' T9
    clear T9
    go_wp2_with fail
    refine HI9.out.mono ?_
    rintro e y10 ⟨hb10, gh, lh, ch, rfl, hOh⟩
    rw [HRW.out] at hOh
    rw [HOK.out]
    have T10 := HT9.out.below hb10
    have HOH := Hid.mk' hOh
    clear HT9 hb10 hOh HI9
    have HT10 := Hid.mk' T10
    clear T10
    go_wp2_with fail
    refine (eqP _ _ _ _ _ _ _ _ _ HOH.out.sl HT10.out.s.sl rfl).mono ?_
    rintro e y11 ⟨rfl, hB⟩
    have T11 := HT10.out.below hB
    clear HT10 hB HOH
    have HT11 := Hid.mk' T11
    clear T11
    go_wp2_with fail
    refine (heldP _ _ _ _ HT11.out.g.sl (by omega)).mono ?_
    rintro e y12 ⟨rfl, hB⟩
    have T12 := HT11.out.below hB
    clear HT11 hB
    go_wp2_with fail
    go_ret
    exact ⟨rfl, T12.bel⟩
end Go.Proofs.YteammdkipnfmnaaGreatDoor.bun

namespace Go.Proofs.YteammdkipnfmnaaGreatDoor.bun
open Go Go.RowKit Go.Proofs.YteammdkipnfmnaaGreatDoor.base Go.Proofs.YteammdkipnfmnaaGreatDoor.pairs Go.Proofs.YteammdkipnfmnaaGreatDoor.lay Go.Proofs.YteammdkipnfmnaaGreatDoor.range Go.Proofs.YteammdkipnfmnaaGreatDoor.seals
set_option linter.unusedVariables false
set_option linter.unusedSimpArgs false

def foldB (ps : List (List Pr)) : List Pr := ps.foldl unionOf []
theorem foldB_snoc (ps : List (List Pr)) (l : List Pr) : foldB (ps ++ [l]) = unionOf (foldB ps) l := by
  unfold foldB; rw [List.foldl_append]; rfl
theorem foldB_take (ps : List (List Pr)) (k : Nat) (h : k < ps.length) : foldB (ps.take (k + 1)) = unionOf (foldB (ps.take k)) ps[k] := by
  rw [List.take_succ_eq_append_getElem h, foldB_snoc]
theorem foldB_len {ps : List (List Pr)} (h : ∀ l ∈ ps, l.length ≤ 1048576) : ∀ k, k ≤ ps.length → (foldB (ps.take k)).length ≤ k * 1048576 := by
  intro k
  induction k with
  | zero => intro _; exact Nat.le_of_eq rfl
  | succ k ih =>
    intro hk
    have h1 := ih (by omega)
    have h2 := h ps[k] (List.getElem_mem (by omega))
    rw [foldB_take ps k (by omega)]
    have h3 := union_len (foldB (ps.take k)) ps[k]
    rw [Nat.add_mul]; omega
section
variable {n : Nat} {lo hi : ByteArray} {roots : List ByteArray} {proofs : List Pf}
theorem sum_parts {ps : List (List Pr)} (h : ∀ j (hj : j < ps.length), partB n lo hi roots proofs j = some ps[j]) : ∀ k, k ≤ ps.length → sumB n lo hi roots proofs k = some (foldB (ps.take k)) := by
  intro k
  induction k with
  | zero => intro _; rfl
  | succ k ih =>
    intro hk
    rw [sumB_succ (ih (by omega)) (h k (by omega)), foldB_take ps k (by omega)]
theorem part_len {k : Nat} {l : List Pr} (hp : ∀ f ∈ proofs, f.2.2.length ≤ 1048576) (h : partB n lo hi roots proofs k = some l) : l.length ≤ 1048576 := by
  unfold partB at h
  split at h
  · rename_i r f hr hf
    split at h
    · rename_i l2 hck
      split at h
      · cases h
        exact Nat.le_trans (check_len hck) (hp f (List.mem_of_getElem? hf))
      · cases h
    · cases h
  · cases h
end
theorem check_lim {root lo hi : ByteArray} {f : Prf} {l : List Pr} (h : check root lo hi f = some l) (hl : ∀ x ∈ f.items, limI x) : ∀ p ∈ l, p.1.size ≤ 1099511627776 := by
  unfold check at h
  split at h
  · split at h
    · cases h; intro p hp; cases hp
    · cases h
  · split at h
    · cases h
    · split at h
      · cases h
      · split at h
        · cases h
        · cases h
          intro p hp
          unfold between keysOf at hp
          obtain ⟨x, hx, rfl⟩ := List.mem_map.1 (List.mem_filter.1 hp).1
          have := (hl x hx).1.1
          omega
def DPost (w : World) (r : Option (List Pr)) (e : Ending) (w' : World) : Prop :=
  Below w.heap.size w w' ∧ ∃ g n c l, e = .returned (.tuple #[.slice (some ⟨g, 0, none⟩) n c, .bool r.isSome]) ∧ OwnP w' w.heap.size g n c l ∧ (∀ o, r = some o → l = o)
end Go.Proofs.YteammdkipnfmnaaGreatDoor.bun

namespace Go.Proofs.YteammdkipnfmnaaGreatDoor.tabs
open Go Go.RowKit Go.Proofs.YteammdkipnfmnaaGreatDoor.base Go.Proofs.YteammdkipnfmnaaGreatDoor.pairs Go.Proofs.YteammdkipnfmnaaGreatDoor.lay
set_option linter.unusedVariables false
set_option linter.unusedSimpArgs false

def prR : Rd Pr := both str str
theorem flat_pr : cos.Flat prR (fun p => [.string p.1, .string p.2]) (fun p => p.1.size ≤ maxLen ∧ p.2.size ≤ maxLen) := cos.flat_both cos.flat_str cos.flat_str
def tableR : Rd (List Pr) := slice 34 prR
section
variable {w w' : World} {F : List Nat} {vs : List Value} {a : Option Addr} {n cap : Nat} {v : Value}
theorem table_own {l : List Pr} : tableR.own w [v] l F ↔ w.ownsRow 0 34 2 v l.length (pairVals l) ∧ (∀ p ∈ l, small p) ∧ F = v.ownBlock.toList := by
  unfold tableR
  rw [flat_pr.slice]
  exact Iff.rfl
theorem table_ownP {g n c base : Nat} {l : List Pr} (h : OwnP w base g n c l) : tableR.own w [.slice (some ⟨g, 0, none⟩) n c] l [g] := by
  have h2 := h.mono (Nat.zero_le _)
  refine table_own.2 ⟨?_, h.2.1, rfl⟩
  rw [h.1]
  exact h2.2.2
theorem table_P {g n c : Nat} {l : List Pr} (h : tableR.own w [.slice (some ⟨g, 0, none⟩) n c] l F) : OwnP w 0 g n c l := by
  obtain ⟨v', q, e, _, hO⟩ := id h
  cases e
  obtain ⟨h1, h2, _⟩ := table_own.1 h
  have hn : n = l.length := hO.nlen
  subst hn
  exact ⟨rfl, h2, h1⟩
theorem slg_some {α : Type} {R : Rd α} {len : Nat} {l : List α} (h : SlG R w a len l) (h0 : 0 < len) : ∃ b off, a = some ⟨b, off, none⟩ := by
  obtain ⟨b, off, e, _⟩ := h.2.2.2 h0
  exact ⟨b, off, e⟩
end
end Go.Proofs.YteammdkipnfmnaaGreatDoor.tabs

namespace Go.Proofs.YteammdkipnfmnaaGreatDoor.seals
open Go Go.RowKit Go.Proofs.YteammdkipnfmnaaGreatDoor.base Go.Proofs.YteammdkipnfmnaaGreatDoor.pairs Go.Proofs.YteammdkipnfmnaaGreatDoor.tree Go.Proofs.YteammdkipnfmnaaGreatDoor.putnum Go.Proofs.YteammdkipnfmnaaGreatDoor.puttext Go.Proofs.YteammdkipnfmnaaGreatDoor.puttexts
set_option linter.unusedVariables false
set_option linter.unusedSimpArgs false

set_option maxRecDepth 100000 in
set_option maxHeartbeats 1000000 in
theorem addTextsB (g n cap base : Nat) (bs : List UInt8) (a : Option Addr) (len cap2 : Nat) (ss : List ByteArray) (w : World) (h : Own w base g n cap bs) (hb : base ≤ w.heap.size)
    (hS : SlS w a len ss) (hblk : ∀ b off, a = some ⟨b, off, none⟩ → 0 < len → b < base) (hsz : n + (textsBytes ss).length ≤ 549755813888) (hss : ∀ s ∈ ss, s.size ≤ 549755813888) :
    Calls Tryz.prog 77 #[.slice (some ⟨g, 0, none⟩) n cap, .slice a len cap2] w fun e w' =>
      ∃ g' n' cap', e = .returned (.slice (some ⟨g', 0, none⟩) n' cap') ∧ Own w' base g' n' cap' (bs ++ textsBytes ss) ∧ Below base w w' ∧ Keeps w w' := by
  obtain ⟨hl, hm, _, hc⟩ := hS
  subst hl
  unfold maxLen at hm
  obtain ⟨i0, hi, hz0, hz1, hz2⟩ := info_parts info8
  have hn0 := h.1
  go_enter Tryz.func77, Tryz.ntmps77
  go_wp2
  go_loopw [0, 9] (fun v i wr => ∃ (k g' n' cap' : Nat), v = .slice (some ⟨g', 0, none⟩) n' cap' ∧ i = .int .i64 (k : Int) ∧ k ≤ ss.length ∧ Own wr base g' n' cap' (bs ++ textsBytes (ss.take k)) ∧ Below base w wr ∧ Keeps w wr) (fun _ i _ => ss.length - (intOf i).toNat)
  case atStart => exact ⟨0, g, n, cap, rfl, rfl, Nat.zero_le _, by simpa [textsBytes] using h, Below.refl _ _, Keeps.refl _⟩
  case round =>
    obtain ⟨k, g', n', cap', rfl, rfl, hk, hO, hB, hK⟩ := hrel
    by_cases hlt : k < ss.length
    · obtain ⟨b, off, ha, hcl⟩ := hc (by omega)
      have hbk := hblk b off ha (by omega)
      subst ha
      generalize hsk : ss[k] = s
      have c1 : wr.cell? ⟨b, off + k, none⟩ = some (.string s) := by
        rw [hB.cell (p := ⟨b, off + k, none⟩) hbk, hcl k hlt, hsk]
      have hs9 : s.size ≤ 549755813888 := by rw [← hsk]; exact hss _ (List.getElem_mem hlt)
      have hT := textsBytes_take ss k hlt
      rw [hsk] at hT
      have hle := textsBytes_le ss (k + 1)
      rw [hT, List.length_append] at hle
      have hs1 := size_le_textBytes s
      have hn' : n' + s.size ≤ 549755813888 := by have := hO.1; simp only [List.length_append] at this; omega
      have hwf : (Lit.int .i64 (s.size : Int)).wf = true := WalkArith.wf_i64 (by omega)
      have hnb := numBytes_length (s.size : Int)
      have hbw : base ≤ wr.heap.size := Nat.le_trans hb hB.size
      have HT := Hid.mk' hT
      clear hT hle hs1 hcl hc hblk hbk hsk hss
      go_wp2_with fail
      refine (addNum g' n' cap' base _ _ _ hO hbw hwf (by omega)).mono ?_
      rintro e w1 ⟨g1, n1, cap1, rfl, hO1, hB1, hK1⟩
      rw [List.append_assoc] at hO1
      have hn1 : n1 ≤ n' + 5 := by have := hO1.1; have := hO.1; simp only [List.length_append] at *; omega
      have hc3 : n1 + s.size ≤ maxLen := by unfold maxLen; omega
      have hc4 : n1 + s.size ≤ 140737488355328 := by omega
      have hbw1 : base ≤ w1.heap.size := Nat.le_trans hbw hB1.size
      go_wp2_with (at_builtin; refine Lib.wpList_append_own_string _ rfl _ _ 22 9 rfl base 5 i0 Tryz.underlying22 Tryz.underlying9 hi hz0 hz1 hz2 _ _ _ rfl hO1.2 s rfl hc3 hc4 hbw1 ?_)
      intro v2 w2 hown hgrow hnn
      have hnn' : ¬ v2 = .slice none 0 0 := by simpa using hnn
      rw [strCells_eq] at hown
      obtain ⟨g2, cap2', hv, hO2⟩ := own_app (m := s.size) (ns := s.data.toList) hO1.1 (size_toList s) rfl hnn' hown
      subst hv
      have hB2 : Below base w w2 := (hB.trans hB1).grown hgrow hbw1 (fun k e => by simp [Value.ownBlock] at e; have := hO1.lt; omega)
      have hK2 : Keeps w w2 := (hK.trans hK1).trans (hO1.keeps hgrow)
      have HO2 : Hid (Own w2 base g2 (n1 + s.size) cap2' (bs ++ textsBytes (ss.take (k + 1)))) := by
        show Own w2 base g2 (n1 + s.size) cap2' (bs ++ textsBytes (ss.take (k + 1)))
        rw [HT.out]
        simpa [textBytes, List.append_assoc] using hO2
      clear hown hgrow hnn hnn' hO1 hO2 hB1 hO hB hK hK1
      go_wp2
      go_roundw
      case rel => exact ⟨k + 1, g2, _, cap2', rfl, by go_num, by omega, HO2.out, hB2, hK2⟩
      case measure => simp [intOf]; omega
    · have e : k = ss.length := by omega
      go_wp2
      go_ret
      subst e
      rw [List.take_length] at hO
      exact ⟨g', n', cap', rfl, hO, hB, hK⟩
set_option maxRecDepth 100000 in
set_option maxHeartbeats 1000000 in
theorem impl_textsA (a0 : Option Addr) (len cap : Nat) (bs : List UInt8) (a : Option Addr) (len2 cap2 : Nat) (ss : List ByteArray) (w : World) (h : Sl w a0 len bs) (hS : SlS w a len2 ss) (hsz : len ≤ 134217728) (hs : ss.length + sum ss ≤ 134217728) :
    Calls Tryz.prog 35 #[.slice a0 len cap, .slice a len2 cap2] w fun e w' =>
      ∃ g' n' cap', e = .returned (.slice (some ⟨g', 0, none⟩) n' cap') ∧ Own w' w.heap.size g' n' cap' (bs ++ listBytes ss) ∧ Below w.heap.size w w' := by
  have hl := h.1
  have hl2 := hS.1
  have hwf : (Lit.int .i64 (len2 : Int)).wf = true := WalkArith.wf_i64 (by omega)
  have hnb := numBytes_length (len2 : Int)
  have hle2 := textsBytes_sum ss
  have HBL : Hid (∀ b off, a = some ⟨b, off, none⟩ → 0 < len2 → b < w.heap.size) := fun b off e h0 => by
    obtain ⟨b', off', e', hc⟩ := hS.2.2.2 h0
    rw [e] at e'
    simp only [Option.some.injEq, Addr.mk.injEq, and_true] at e'
    obtain ⟨rfl, rfl⟩ := e'
    exact World.block_lt_of_cell? w _ (hc 0 (by omega))
  go_enter Tryz.func35, Tryz.ntmps35
  go_wp2_with fail
  refine (impl_put a0 len cap bs _ _ h hwf (by omega)).mono ?_
  rintro e w1 ⟨g1, n1, cap1, rfl, hO1, hB1⟩
  have hS1 := hS.below hB1
  have hn1 : n1 ≤ 134217733 := by have := hO1.1; simp at this; omega
  go_wp2_with fail
  refine (addTextsB g1 n1 cap1 w.heap.size _ _ len2 cap2 ss _ hO1 hB1.size hS1 ?_ ?_ ?_).mono ?_
  · exact HBL.out
  · omega
  · intro x hx; have := size_le_sum ss x hx; omega
  rintro e w2 ⟨g3, n3, cap3, rfl, hO3, hB3, _⟩
  go_wp2_with fail
  go_ret
  refine ⟨g3, n3, cap3, rfl, ?_, hB1.trans hB3⟩
  rw [List.append_assoc, ← hl2] at hO3
  exact hO3
set_option maxRecDepth 100000 in
set_option maxHeartbeats 1000000 in
theorem impl_superOf (no : Int) (prev : ByteArray) (a : Option Addr) (n cap : Nat) (roots : List ByteArray) (w : World) (h : SlS w a n roots) (hno : (Lit.int .i64 no).wf = true) (hp : prev.size ≤ 1048576) (hr : roots.length + sum roots ≤ 1048576) (hK : sha.KW w) :
    Calls Tryz.prog 9 #[.int .i64 no, .string prev, .slice a n cap] w fun e w' => e = .returned (.string (superOf no prev roots)) ∧ Below w.heap.size w w' := by
  obtain ⟨w0, hw0⟩ : ∃ w0, w.alloc (.cells #[.int .u8 3] 5) = w0 := ⟨_, rfl⟩
  have hb0 : Below w.heap.size w w0 := by rw [← hw0]; exact (Below.refl _ _).alloc (Nat.le_refl _) _
  have hO : Own w0 w.heap.size w.heap.size 1 1 [3] := by rw [← hw0]; exact own_one w 3 3 rfl w.heap.size (Nat.le_refl _)
  have HN := Hid.mk' (impl_put (some ⟨w.heap.size, 0, none⟩) 1 1 [3] no w0 hO.sl hno (by omega))
  have HW := Hid.mk' hw0
  have hnl := numBytes_length no
  have htl := textBytes_length prev
  have hll := listBytes_length roots
  clear hw0 hO
  go_enter Tryz.func9, Tryz.ntmps9
  go_wp2_with fail
  rw [HW.out]
  refine HN.out.mono ?_
  rintro e w1 ⟨g1, n1, c1, rfl, hO1, hb1⟩
  have hB1 := hb0.trans (hb1.mono hb0.size)
  have HT := Hid.mk' (impl_text (some ⟨g1, 0, none⟩) n1 c1 ([3] ++ numBytes no) prev w1 hO1.sl (by have := hO1.1; simp at this; omega) (by omega))
  clear HN HW hO1
  go_wp2_with fail
  refine HT.out.mono ?_
  rintro e w2 ⟨g2, n2, c2, rfl, hO2, hb2⟩
  have hB2 := hB1.trans (hb2.mono hB1.size)
  have HS := Hid.mk' (impl_textsA (some ⟨g2, 0, none⟩) n2 c2 ([3] ++ numBytes no ++ textBytes prev) a n cap roots w2 hO2.sl (h.below hB2) (by have := hO2.1; simp at this; omega) (by omega))
  clear HT hO2
  go_wp2_with fail
  refine HS.out.mono ?_
  rintro e w3 ⟨g3, n3, c3, rfl, hO3, hb3⟩
  have hB3 := hB2.trans (hb3.mono hB2.size)
  have hn : n3 ≤ 1099511627776 := by have := hO3.1; simp at this; omega
  have HD := Hid.mk' (sha.impl_digest g3 0 n3 c3 (superB no prev roots) w3 hO3.sl hn (hK.below hB3))
  clear HS hO3
  go_wp2_with fail
  refine HD.out.mono ?_
  rintro e w4 ⟨rfl, hb4⟩
  go_wp2_with fail
  go_ret
  exact ⟨rfl, hB3.trans (hb4.mono hB3.size)⟩
end Go.Proofs.YteammdkipnfmnaaGreatDoor.seals

namespace Go.Proofs.YteammdkipnfmnaaGreatDoor.seals
open Go Go.RowKit Go.Proofs.YteammdkipnfmnaaGreatDoor.base Go.Proofs.YteammdkipnfmnaaGreatDoor.pairs Go.Proofs.YteammdkipnfmnaaGreatDoor.tree Go.Proofs.YteammdkipnfmnaaGreatDoor.lay
set_option linter.unusedVariables false
set_option linter.unusedSimpArgs false

theorem i_count (n : Int) (w : World) : Calls Tryz.prog 57 #[.int .i64 n] w fun e w' => e = .returned (.bool (decide (1 ≤ n ∧ n ≤ 8))) ∧ w' = w := by
  by_cases h1 : n ≥ 1
  · have h1' : 1 ≤ n := h1
    by_cases h2 : n ≤ 8
    · go_enter Tryz.func57, Tryz.ntmps57
      go_wp2
      go_ret
      exact ⟨by simp [h1', h2], rfl⟩
    · go_enter Tryz.func57, Tryz.ntmps57
      go_wp2
      go_ret
      exact ⟨by simp [h1', h2], rfl⟩
  · go_enter Tryz.func57, Tryz.ntmps57
    go_wp2
    go_ret
    exact ⟨by have h3 : ¬ 1 ≤ n := by omega
              simp [h3], rfl⟩
end Go.Proofs.YteammdkipnfmnaaGreatDoor.seals

namespace Go.Proofs.YteammdkipnfmnaaGreatDoor.pairs
open Go Go.RowKit Go.Proofs.YteammdkipnfmnaaGreatDoor.base
set_option linter.unusedVariables false
set_option linter.unusedSimpArgs false

set_option maxHeartbeats 400000 in
theorem i_key (p : Pr) (w : World) :
    Calls Tryz.prog 167 #[.agg #[.string p.1, .string p.2]] w fun e w' => e = .returned (.string p.1) ∧ w' = w.alloc (.cells #[.string p.1, .string p.2] 34) := by
  go_enter Tryz.func167, Tryz.ntmps167
  go_wp2
  go_ret
  exact ⟨rfl, rfl⟩

set_option maxHeartbeats 400000 in
theorem i_keySign (c : Nat) (w : World) (hc : c < 256) :
    Calls Tryz.prog 139 #[.int .u8 (c : Int)] w fun e w' => e = .returned (.bool (keyCh c)) ∧ w' = w := by
  by_cases h1 : 97 ≤ c
  · by_cases h2 : c ≤ 122
    · go_enter Tryz.func139, Tryz.ntmps139
      go_wp2
      go_ret
      exact ⟨ret_bool (by simp [keyCh, h1, h2]), rfl⟩
    · have h3 : ¬ c ≤ 57 := by omega
      have h4 : 48 ≤ c := by omega
      go_enter Tryz.func139, Tryz.ntmps139
      go_wp2
      go_ret
      exact ⟨ret_bool (by simp [keyCh, h2, h3]; omega), rfl⟩
  · by_cases h2 : 48 ≤ c
    · by_cases h3 : c ≤ 57
      · go_enter Tryz.func139, Tryz.ntmps139
        go_wp2
        go_ret
        exact ⟨ret_bool (by simp [keyCh, h2, h3]; omega), rfl⟩
      · go_enter Tryz.func139, Tryz.ntmps139
        go_wp2
        go_ret
        exact ⟨ret_bool (by simp [keyCh, h1, h3]; omega), rfl⟩
    · go_enter Tryz.func139, Tryz.ntmps139
      go_wp2
      go_ret
      exact ⟨ret_bool (by simp [keyCh, h1, h2]), rfl⟩

set_option maxRecDepth 100000 in
set_option maxHeartbeats 1000000 in
theorem impl_keyOk (s : ByteArray) (w : World) (hs : s.size ≤ 1099511627776) :
    Calls Tryz.prog 123 #[.string s] w fun e w' => e = .returned (.bool (keyOk s)) ∧ Below w.heap.size w w' := by
  by_cases h0 : s.size < 1
  · go_enter Tryz.func123, Tryz.ntmps123
    go_wp2_with fail
    go_ret
    exact ⟨ret_bool (by simp [keyOk]; omega), Below.refl _ _⟩
  by_cases h12 : 12 < s.size
  · go_enter Tryz.func123, Tryz.ntmps123
    go_wp2_with fail
    go_ret
    exact ⟨ret_bool (by simp [keyOk]; omega), Below.refl _ _⟩
  have HZ : Hid (decide (1 ≤ s.size ∧ s.size ≤ 12) = true) := by show _ = _; simp; omega
  generalize hR : keyAll s.data.toList = R
  have HR := Hid.mk' hR
  clear hR
  have hconv := Lib.run_convert_string_bytes (P := Tryz.prog) w 9 22 5 s Tryz.underlying9 Tryz.underlying22 Tryz.underlying5
  have hbts := bts_new w s
  have hBB := below_bytesWorld w 5 s
  go_enter Tryz.func123, Tryz.ntmps123
  go_wp2_with fail
  generalize Lib.bytesWorld w 5 s = w1 at *
  go_loop [16] (fun i => ∃ k : Nat, k ≤ s.size ∧ i = .int .i64 (k : Int) ∧ keyAll (s.data.toList.drop k) = R) (fun i => s.size - (intOf i).toNat)
  case atStart => exact ⟨0, Nat.zero_le _, rfl, HR.out⟩
  case round =>
    obtain ⟨k, hk, rfl, hr⟩ := hrel
    clear hconv
    by_cases hlt : k < s.size
    · have hst := keyAll_drop s k hlt
      rw [hr] at hst
      have hc := s[k].toNat_lt
      have hcl := hbts.2 k hlt
      generalize hC : s[k].toNat = c at *
      have hki : (k : Int) < (s.size : Int) := by omega
      have hl := i_keySign c w1 (by omega)
      cases hq : keyCh c
      · rw [hq] at hl hst
        have HF : Hid (R = false) := by show _ = _; simpa using hst
        have HL := Hid.mk' hl
        clear hl hst hr hC
        go_wp2_with fail
        refine HL.out.mono ?_
        rintro e w2 ⟨rfl, rfl⟩
        go_wp2_with fail
        go_ret
        exact ⟨ret_bool (by unfold keyOk; rw [HR.out, HF.out]; rfl), hBB⟩
      · rw [hq] at hl hst
        have HF : Hid (keyAll (s.data.toList.drop (k + 1)) = R) := by show _ = _; simpa using hst.symm
        have HL := Hid.mk' hl
        clear hl hst hr hC
        go_wp2_with fail
        refine HL.out.mono ?_
        rintro e w2 ⟨rfl, rfl⟩
        go_wp2_with fail
        go_round
        case rel => exact ⟨k + 1, by omega, by go_num, HF.out⟩
        case measure => simp [intOf]; omega
    · have HF : Hid (R = true) := by show _ = _; rw [← hr, List.drop_eq_nil_of_le (by simp; omega)]; rfl
      clear hr
      go_wp2_with fail
      go_ret
      exact ⟨ret_bool (by unfold keyOk; rw [HR.out, HF.out, HZ.out]; rfl), hBB⟩

set_option maxHeartbeats 400000 in
theorem impl_pairOk (p : Pr) (w : World) (hp : small p) (hs : p.1.size ≤ 1099511627776) :
    Calls Tryz.prog 98 #[.agg #[.string p.1, .string p.2]] w fun e w' => e = .returned (.bool (pairOk p)) ∧ Below w.heap.size w w' := by
  have h2 := hp.2
  unfold maxLen at h2
  have hba : Below w.heap.size w (w.alloc (.cells #[.string p.1, .string p.2] 34)) := (Below.refl _ _).alloc (Nat.le_refl _) _
  have hk := impl_keyOk p.1 (w.alloc (.cells #[.string p.1, .string p.2] 34)) hs
  cases hK : keyOk p.1
  · rw [hK] at hk
    have HK := Hid.mk' hk
    have H1 := Hid.mk' hK
    clear hk hK
    go_enter Tryz.func98, Tryz.ntmps98
    go_wp2_with fail
    refine HK.out.mono ?_
    rintro e w1 ⟨rfl, hb1⟩
    go_wp2_with fail
    go_ret
    exact ⟨ret_bool (by unfold pairOk; rw [H1.out]; rfl), hba.trans (hb1.mono hba.size)⟩
  · rw [hK] at hk
    have HK := Hid.mk' hk
    have H1 := Hid.mk' hK
    clear hk hK
    go_enter Tryz.func98, Tryz.ntmps98
    go_wp2_with fail
    refine HK.out.mono ?_
    rintro e w1 ⟨rfl, hb1⟩
    have hc := bcell hb1
    go_wp2_with fail
    go_ret
    exact ⟨ret_bool (by unfold pairOk; rw [H1.out]; simp; omega), hba.trans (hb1.mono hba.size)⟩

end Go.Proofs.YteammdkipnfmnaaGreatDoor.pairs

namespace Go.Proofs.YteammdkipnfmnaaGreatDoor.ords
open Go Go.RowKit Go.Proofs.YteammdkipnfmnaaGreatDoor.base Go.Proofs.YteammdkipnfmnaaGreatDoor.pairs
set_option linter.unusedVariables false
set_option linter.unusedSimpArgs false

/-! ### orders that rise -/
end Go.Proofs.YteammdkipnfmnaaGreatDoor.ords

namespace Go.Proofs.YteammdkipnfmnaaGreatDoor.ords
open Go Go.RowKit Go.Proofs.YteammdkipnfmnaaGreatDoor.base Go.Proofs.YteammdkipnfmnaaGreatDoor.pairs
set_option linter.unusedVariables false
set_option linter.unusedSimpArgs false

end Go.Proofs.YteammdkipnfmnaaGreatDoor.ords
