/- WoSf ShardLaw ShOut -/
import Derived.Test.YtijplooogplccaaGreatShbk
import Derived.Test.YtijplooogplccaaGreatShbl
import Derived.Test.YtijplooogplccaaGreatShbm
import Derived.Laws.EntriesVeiled
import Derived.Test.YtijplooogplccaaGreatShao
set_option linter.unusedVariables false
set_option linter.unusedSimpArgs false
namespace Go.Proofs.YtijplooogplccaaGreat
namespace wos
open Go Go.RowKit base pairs ords lay
def safeB : Bool → Bool → Bool → Bool → Bool → Int
 | false, _, _, _, _ => 1
 | true, false, _, _, _ => 2
 | true, true, false, _, _ => 3
 | true, true, true, false, _ => 4
 | true, true, true, true, false => 5
 | true, true, true, true, true => 0
def safeR (x : Wo) : Int := safeB (worldOk x) (nospS x.2.1) (backR x) (wholeR x) (promR x)
set_option maxRecDepth 100000 in
set_option maxHeartbeats 4000000 in
theorem spec_safe (ja : Option Addr) (jn jc : Nat) (la : Option Addr) (ln lc : Nat) (sa : Option Addr) (sn sc : Nat) (na : Option Addr) (nn nc : Nat) (oa : Option Addr) (on oc : Nat) (ba : Option Addr) (bn bc : Nat) (x : Wo) (w : World) (h : SeeWo w ja jn jc la ln lc sa sn sc na nn nc oa on oc ba bn bc x) (hf : FitW x) :
 Calls Tryz.prog 10 #[.agg #[.int .i64 x.1.1, .int .i64 x.1.2.1, .int .i64 x.1.2.2.1, .slice ja jn jc, .slice la ln lc, .int .i64 x.1.2.2.2.2.2, .slice sa sn sc, .slice na nn nc, .slice oa on oc, .slice ba bn bc]] w fun e w' => e = .returned (.int .i64 (safeR x)) ∧ Below w.heap.size w w' := by
 obtain ⟨W, hW⟩ : ∃ W, w.alloc (.cells #[.int .i64 x.1.1, .int .i64 x.1.2.1, .int .i64 x.1.2.2.1, .slice ja jn jc, .slice la ln lc, .int .i64 x.1.2.2.2.2.2, .slice sa sn sc, .slice na nn nc, .slice oa on oc, .slice ba bn bc] 41) = W := ⟨_, rfl⟩
 have hB : Below w.heap.size w W := by rw [← hW]; exact below_make
 have hX : BoxIn w.heap.size 41 [] [.int .i64 x.1.1, .int .i64 x.1.2.1, .int .i64 x.1.2.2.1, .slice ja jn jc, .slice la ln lc, .int .i64 x.1.2.2.2.2.2, .slice sa sn sc, .slice na nn nc, .slice oa on oc, .slice ba bn bc] [] W := by rw [← hW]; exact boxIn_new w _ _
 have HC0 := Hid.mk' (fun wx (hx : Below W.heap.size W wx) => spec_worldOk ja jn jc la ln lc sa sn sc na nn nc oa on oc ba bn bc x wx ((h.below hB).below hx) hf)
 have HC1 := Hid.mk' (fun wx (hx : Below W.heap.size W wx) => spec_noSplit ja jn jc la ln lc sa sn sc na nn nc oa on oc ba bn bc x wx ((h.below hB).below hx))
 have HC2 := Hid.mk' (fun wx (hx : Below W.heap.size W wx) => spec_backed ja jn jc la ln lc sa sn sc na nn nc oa on oc ba bn bc x wx ((h.below hB).below hx))
 have HC3 := Hid.mk' (fun wx (hx : Below W.heap.size W wx) => spec_whole ja jn jc la ln lc sa sn sc na nn nc oa on oc ba bn bc x wx ((h.below hB).below hx) hf.beg)
 have HC4 := Hid.mk' (fun wx (hx : Below W.heap.size W wx) => spec_promised ja jn jc la ln lc sa sn sc na nn nc oa on oc ba bn bc x wx ((h.below hB).below hx) hf.beg)
 have HR : Hid (safeR x = safeB (worldOk x) (nospS x.2.1) (backR x) (wholeR x) (promR x)) := rfl
 generalize safeR x = R at *
 generalize worldOk x = r0 at *
 generalize nospS x.2.1 = r1 at *
 generalize backR x = r2 at *
 generalize wholeR x = r3 at *
 generalize promR x = r4 at *
 have HW := Hid.mk' hW
 obtain ⟨a0, a1, a2, a3, a4, a5, a6, a7, a8, a9⟩ := cells10 hX
 rw [← hW] at a0 a1 a2 a3 a4 a5 a6 a7 a8 a9
 clear hW h hf
 go_enter Tryz.func10, Tryz.ntmps10
 go_wp2_with fail
 rw [HW.out]
 clear HW a0 a1 a2 a3 a4 a5 a6 a7 a8 a9
 have hb0 : Below W.heap.size W W := Below.refl _ _
 refine (HC0.out _ hb0).mono ?_
 rintro e w1 ⟨rfl, hd1⟩
 have hb1 := hb0.trans (hd1.mono hb0.size)
 clear HC0
 cases r0
 · go_wp2_with fail
   go_ret
   exact ⟨by rw [HR.out]; rfl, hB.trans (hb1.mono hB.size)⟩
 obtain ⟨a0, a1, a2, a3, a4, a5, a6, a7, a8, a9⟩ := cells10 (hX.below hb1)
 go_wp2_with fail
 clear a0 a1 a2 a3 a4 a5 a6 a7 a8 a9
 refine (HC1.out _ hb1).mono ?_
 rintro e w2 ⟨rfl, hd2⟩
 have hb2 := hb1.trans (hd2.mono hb1.size)
 clear HC1
 cases r1
 · go_wp2_with fail
   go_ret
   exact ⟨by rw [HR.out]; rfl, hB.trans (hb2.mono hB.size)⟩
 obtain ⟨a0, a1, a2, a3, a4, a5, a6, a7, a8, a9⟩ := cells10 (hX.below hb2)
 go_wp2_with fail
 clear a0 a1 a2 a3 a4 a5 a6 a7 a8 a9
 refine (HC2.out _ hb2).mono ?_
 rintro e w3 ⟨rfl, hd3⟩
 have hb3 := hb2.trans (hd3.mono hb2.size)
 clear HC2
 cases r2
 · go_wp2_with fail
   go_ret
   exact ⟨by rw [HR.out]; rfl, hB.trans (hb3.mono hB.size)⟩
 obtain ⟨a0, a1, a2, a3, a4, a5, a6, a7, a8, a9⟩ := cells10 (hX.below hb3)
 go_wp2_with fail
 clear a0 a1 a2 a3 a4 a5 a6 a7 a8 a9
 refine (HC3.out _ hb3).mono ?_
 rintro e w4 ⟨rfl, hd4⟩
 have hb4 := hb3.trans (hd4.mono hb3.size)
 clear HC3
 cases r3
 · go_wp2_with fail
   go_ret
   exact ⟨by rw [HR.out]; rfl, hB.trans (hb4.mono hB.size)⟩
 obtain ⟨a0, a1, a2, a3, a4, a5, a6, a7, a8, a9⟩ := cells10 (hX.below hb4)
 go_wp2_with fail
 clear a0 a1 a2 a3 a4 a5 a6 a7 a8 a9
 refine (HC4.out _ hb4).mono ?_
 rintro e w5 ⟨rfl, hd5⟩
 have hb5 := hb4.trans (hd5.mono hb4.size)
 clear HC4
 cases r4
 · go_wp2_with fail
   go_ret
   exact ⟨by rw [HR.out]; rfl, hB.trans (hb5.mono hB.size)⟩
 go_wp2_with fail
 go_ret
 exact ⟨by rw [HR.out]; rfl, hB.trans (hb5.mono hB.size)⟩
set_option maxRecDepth 100000 in
theorem i_questions (w : World) : Calls Tryz.prog 37 #[] w fun e w' => e = .returned (.slice (some ⟨w.heap.size, 0, none⟩) 5 5) ∧ w.alloc (.cells #[.int .i64 1, .func (.func 8) #[] #[], .int .i64 2, .func (.func 74) #[] #[], .int .i64 3, .func (.func 75) #[] #[], .int .i64 4, .func (.func 76) #[] #[], .int .i64 5, .func (.func 77) #[] #[]] 77) = w' := by
 go_enter Tryz.func37, Tryz.ntmps37
 go_wp2_with fail
 go_ret
 exact ⟨rfl, rfl⟩
set_option maxRecDepth 100000 in
set_option maxHeartbeats 8000000 in
theorem impl_safe (ja : Option Addr) (jn jc : Nat) (la : Option Addr) (ln lc : Nat) (sa : Option Addr) (sn sc : Nat) (na : Option Addr) (nn nc : Nat) (oa : Option Addr) (on oc : Nat) (ba : Option Addr) (bn bc : Nat) (x : Wo) (w : World) (h : SeeWo w ja jn jc la ln lc sa sn sc na nn nc oa on oc ba bn bc x) (hp : PlainO w ba bn) (hps : PlainS w sa sn) (hf : FitW x) (hun : worldOk x = true → nospI x.2.1 = nospS x.2.1) (hsn : sn ≤ 1048576) :
 Calls Tryz.prog 11 #[.agg #[.int .i64 x.1.1, .int .i64 x.1.2.1, .int .i64 x.1.2.2.1, .slice ja jn jc, .slice la ln lc, .int .i64 x.1.2.2.2.2.2, .slice sa sn sc, .slice na nn nc, .slice oa on oc, .slice ba bn bc]] w fun e w' => e = .returned (.int .i64 (safeR x)) ∧ Below w.heap.size w w' := by
 obtain ⟨W, hW⟩ : ∃ W, w.alloc (.cells #[.int .i64 x.1.1, .int .i64 x.1.2.1, .int .i64 x.1.2.2.1, .slice ja jn jc, .slice la ln lc, .int .i64 x.1.2.2.2.2.2, .slice sa sn sc, .slice na nn nc, .slice oa on oc, .slice ba bn bc] 41) = W := ⟨_, rfl⟩
 have hB : Below w.heap.size w W := by rw [← hW]; exact below_make
 have hX : BoxIn w.heap.size 41 [] [.int .i64 x.1.1, .int .i64 x.1.2.1, .int .i64 x.1.2.2.1, .slice ja jn jc, .slice la ln lc, .int .i64 x.1.2.2.2.2.2, .slice sa sn sc, .slice na nn nc, .slice oa on oc, .slice ba bn bc] [] W := by rw [← hW]; exact boxIn_new w _ _
 have HC0 := Hid.mk' (fun wx (hx : Below W.heap.size W wx) => impl_worldOk ja jn jc la ln lc sa sn sc na nn nc oa on oc ba bn bc x wx ((h.below hB).below hx) (plainO_below (h.begun.below hB) (plainO_below h.begun hp hB) hx) (plainS_below (h.sh.below hB) (plainS_below h.sh hps hB) hx) hf)
 have HC1 := Hid.mk' (fun wx (hx : Below W.heap.size W wx) => impl_noSplit ja jn jc la ln lc sa sn sc na nn nc oa on oc ba bn bc x wx ((h.below hB).below hx) hsn (fun s hs => (hf.sh s hs).2.1))
 have HC2 := Hid.mk' (fun wx (hx : Below W.heap.size W wx) => impl_backed ja jn jc la ln lc sa sn sc na nn nc oa on oc ba bn bc x wx ((h.below hB).below hx))
 have HC3 := Hid.mk' (fun wx (hx : Below W.heap.size W wx) => impl_whole ja jn jc la ln lc sa sn sc na nn nc oa on oc ba bn bc x wx ((h.below hB).below hx) (plainO_below (h.begun.below hB) (plainO_below h.begun hp hB) hx) hf.beg)
 have HC4 := Hid.mk' (fun wx (hx : Below W.heap.size W wx) => impl_promised ja jn jc la ln lc sa sn sc na nn nc oa on oc ba bn bc x wx ((h.below hB).below hx) (plainO_below (h.begun.below hB) (plainO_below h.begun hp hB) hx) hf.beg)
 have HUN := Hid.mk' hun
 have HR : Hid (safeR x = safeB (worldOk x) (nospS x.2.1) (backR x) (wholeR x) (promR x)) := rfl
 generalize safeR x = R at *
 generalize worldOk x = r0 at *
 generalize nospI x.2.1 = r1 at *
 generalize nospS x.2.1 = t1 at *
 generalize backR x = r2 at *
 generalize wholeR x = r3 at *
 generalize promR x = r4 at *
 have HQ := Hid.mk' (i_questions W)
 have HW := Hid.mk' hW
 clear hW h hf hp hps hun
 go_enter Tryz.func11, Tryz.ntmps11
 go_wp2_with fail
 rw [HW.out]
 refine HQ.out.mono ?_
 rintro e V ⟨rfl, hV⟩
 have hbV : Below W.heap.size W V := by rw [← hV]; exact below_make
 have hG : BoxIn W.heap.size 77 [] [.int .i64 1, .func (.func 8) #[] #[], .int .i64 2, .func (.func 74) #[] #[], .int .i64 3, .func (.func 75) #[] #[], .int .i64 4, .func (.func 76) #[] #[], .int .i64 5, .func (.func 77) #[] #[]] [] V := by rw [← hV]; exact boxIn_new W _ _
 clear HW HQ hV
 go_wp2_with fail
 go_loopw [7] (fun i wr => Below V.heap.size V wr ∧ (i = .int .i64 0 ∨ (i = .int .i64 1 ∧ r0 = true) ∨ (i = .int .i64 2 ∧ r0 = true ∧ r1 = true) ∨ (i = .int .i64 3 ∧ r0 = true ∧ r1 = true ∧ r2 = true) ∨ (i = .int .i64 4 ∧ r0 = true ∧ r1 = true ∧ r2 = true ∧ r3 = true) ∨ (i = .int .i64 5 ∧ r0 = true ∧ r1 = true ∧ r2 = true ∧ r3 = true ∧ r4 = true))) (fun i _ => 5 - (intOf i).toNat)
 case atStart => exact ⟨Below.refl _ _, .inl rfl⟩
 case round =>
  obtain ⟨hb, hcs⟩ := hrel
  have hbw := hbV.trans (hb.mono hbV.size)
  obtain ⟨g0, g1, g2, g3, g4, g5, g6, g7, g8, g9⟩ := cells10 (hG.below hb)
  rcases hcs with rfl | ⟨rfl, hr0⟩ | ⟨rfl, hr0, hr1⟩ | ⟨rfl, hr0, hr1, hr2⟩ | ⟨rfl, hr0, hr1, hr2, hr3⟩ | ⟨rfl, hr0, hr1, hr2, hr3, hr4⟩
  · obtain ⟨u1, hu1⟩ : ∃ u1, wr.alloc (.cells #[.int .i64 1, .func (.func 8) #[] #[]] 77) = u1 := ⟨_, rfl⟩
    have hbu : Below wr.heap.size wr u1 := by rw [← hu1]; exact below_make
    have hY := boxIn_new wr [.int .i64 1, .func (.func 8) #[] #[]] 77
    rw [hu1] at hY
    obtain ⟨y0, y1⟩ := cells2 hY
    obtain ⟨a0, a1, a2, a3, a4, a5, a6, a7, a8, a9⟩ := cells10 ((hX.below hbw).below hbu)
    rw [← hu1] at y0 y1 a0 a1 a2 a3 a4 a5 a6 a7 a8 a9
    have HU := Hid.mk' hu1
    have hbwu := hbw.trans (hbu.mono hbw.size)
    have HCX := Hid.mk' (HC0.out u1 hbwu)
    clear hu1
    go_wp2_with fail
    rw [HU.out]
    refine HCX.out.mono ?_
    rintro e w9 ⟨rfl, hb9⟩
    have hb99 := hb.trans ((hbu.trans (hb9.mono hbu.size)).mono hb.size)
    have hbW9 := hbwu.trans (hb9.mono hbwu.size)
    clear y0 y1 a0 a1 a2 a3 a4 a5 a6 a7 a8 a9 g0 g1 g2 g3 g4 g5 g6 g7 g8 g9 HCX HU
    obtain ⟨y0, y1⟩ := cells2 (hY.below hb9)
    cases r0
    · go_wp2_with fail
      go_ret
      exact ⟨by rw [HR.out]; rfl, hB.trans (hbW9.mono hB.size)⟩
    · go_wp2_with fail
      go_roundw
      case rel => exact ⟨hb99, .inr (.inl ⟨by first | rfl | trivial, by first | rfl | trivial⟩)⟩
      case measure => simp [intOf]
  · subst hr0
    have hu := HUN.out rfl
    subst hu
    clear HUN
    obtain ⟨u1, hu1⟩ : ∃ u1, wr.alloc (.cells #[.int .i64 2, .func (.func 74) #[] #[]] 77) = u1 := ⟨_, rfl⟩
    have hbu : Below wr.heap.size wr u1 := by rw [← hu1]; exact below_make
    have hY := boxIn_new wr [.int .i64 2, .func (.func 74) #[] #[]] 77
    rw [hu1] at hY
    obtain ⟨y0, y1⟩ := cells2 hY
    obtain ⟨a0, a1, a2, a3, a4, a5, a6, a7, a8, a9⟩ := cells10 ((hX.below hbw).below hbu)
    rw [← hu1] at y0 y1 a0 a1 a2 a3 a4 a5 a6 a7 a8 a9
    have HU := Hid.mk' hu1
    have hbwu := hbw.trans (hbu.mono hbw.size)
    have HCX := Hid.mk' (HC1.out u1 hbwu)
    clear hu1
    go_wp2_with fail
    rw [HU.out]
    refine HCX.out.mono ?_
    rintro e w9 ⟨rfl, hb9⟩
    have hb99 := hb.trans ((hbu.trans (hb9.mono hbu.size)).mono hb.size)
    have hbW9 := hbwu.trans (hb9.mono hbwu.size)
    clear y0 y1 a0 a1 a2 a3 a4 a5 a6 a7 a8 a9 g0 g1 g2 g3 g4 g5 g6 g7 g8 g9 HCX HU
    obtain ⟨y0, y1⟩ := cells2 (hY.below hb9)
    cases r1
    · go_wp2_with fail
      go_ret
      exact ⟨by rw [HR.out]; rfl, hB.trans (hbW9.mono hB.size)⟩
    · go_wp2_with fail
      go_roundw
      case rel => exact ⟨hb99, .inr (.inr (.inl ⟨by first | rfl | trivial, by first | rfl | trivial, by first | rfl | trivial⟩))⟩
      case measure => simp [intOf]
  · subst hr0
    subst hr1
    have hu := HUN.out rfl
    subst hu
    clear HUN
    obtain ⟨u1, hu1⟩ : ∃ u1, wr.alloc (.cells #[.int .i64 3, .func (.func 75) #[] #[]] 77) = u1 := ⟨_, rfl⟩
    have hbu : Below wr.heap.size wr u1 := by rw [← hu1]; exact below_make
    have hY := boxIn_new wr [.int .i64 3, .func (.func 75) #[] #[]] 77
    rw [hu1] at hY
    obtain ⟨y0, y1⟩ := cells2 hY
    obtain ⟨a0, a1, a2, a3, a4, a5, a6, a7, a8, a9⟩ := cells10 ((hX.below hbw).below hbu)
    rw [← hu1] at y0 y1 a0 a1 a2 a3 a4 a5 a6 a7 a8 a9
    have HU := Hid.mk' hu1
    have hbwu := hbw.trans (hbu.mono hbw.size)
    have HCX := Hid.mk' (HC2.out u1 hbwu)
    clear hu1
    go_wp2_with fail
    rw [HU.out]
    refine HCX.out.mono ?_
    rintro e w9 ⟨rfl, hb9⟩
    have hb99 := hb.trans ((hbu.trans (hb9.mono hbu.size)).mono hb.size)
    have hbW9 := hbwu.trans (hb9.mono hbwu.size)
    clear y0 y1 a0 a1 a2 a3 a4 a5 a6 a7 a8 a9 g0 g1 g2 g3 g4 g5 g6 g7 g8 g9 HCX HU
    obtain ⟨y0, y1⟩ := cells2 (hY.below hb9)
    cases r2
    · go_wp2_with fail
      go_ret
      exact ⟨by rw [HR.out]; rfl, hB.trans (hbW9.mono hB.size)⟩
    · go_wp2_with fail
      go_roundw
      case rel => exact ⟨hb99, .inr (.inr (.inr (.inl ⟨by first | rfl | trivial, by first | rfl | trivial, by first | rfl | trivial, by first | rfl | trivial⟩)))⟩
      case measure => simp [intOf]
  · subst hr0
    subst hr1
    subst hr2
    have hu := HUN.out rfl
    subst hu
    clear HUN
    obtain ⟨u1, hu1⟩ : ∃ u1, wr.alloc (.cells #[.int .i64 4, .func (.func 76) #[] #[]] 77) = u1 := ⟨_, rfl⟩
    have hbu : Below wr.heap.size wr u1 := by rw [← hu1]; exact below_make
    have hY := boxIn_new wr [.int .i64 4, .func (.func 76) #[] #[]] 77
    rw [hu1] at hY
    obtain ⟨y0, y1⟩ := cells2 hY
    obtain ⟨a0, a1, a2, a3, a4, a5, a6, a7, a8, a9⟩ := cells10 ((hX.below hbw).below hbu)
    rw [← hu1] at y0 y1 a0 a1 a2 a3 a4 a5 a6 a7 a8 a9
    have HU := Hid.mk' hu1
    have hbwu := hbw.trans (hbu.mono hbw.size)
    have HCX := Hid.mk' (HC3.out u1 hbwu)
    clear hu1
    go_wp2_with fail
    rw [HU.out]
    refine HCX.out.mono ?_
    rintro e w9 ⟨rfl, hb9⟩
    have hb99 := hb.trans ((hbu.trans (hb9.mono hbu.size)).mono hb.size)
    have hbW9 := hbwu.trans (hb9.mono hbwu.size)
    clear y0 y1 a0 a1 a2 a3 a4 a5 a6 a7 a8 a9 g0 g1 g2 g3 g4 g5 g6 g7 g8 g9 HCX HU
    obtain ⟨y0, y1⟩ := cells2 (hY.below hb9)
    cases r3
    · go_wp2_with fail
      go_ret
      exact ⟨by rw [HR.out]; rfl, hB.trans (hbW9.mono hB.size)⟩
    · go_wp2_with fail
      go_roundw
      case rel => exact ⟨hb99, .inr (.inr (.inr (.inr (.inl ⟨by first | rfl | trivial, by first | rfl | trivial, by first | rfl | trivial, by first | rfl | trivial, by first | rfl | trivial⟩))))⟩
      case measure => simp [intOf]
  · subst hr0
    subst hr1
    subst hr2
    subst hr3
    have hu := HUN.out rfl
    subst hu
    clear HUN
    obtain ⟨u1, hu1⟩ : ∃ u1, wr.alloc (.cells #[.int .i64 5, .func (.func 77) #[] #[]] 77) = u1 := ⟨_, rfl⟩
    have hbu : Below wr.heap.size wr u1 := by rw [← hu1]; exact below_make
    have hY := boxIn_new wr [.int .i64 5, .func (.func 77) #[] #[]] 77
    rw [hu1] at hY
    obtain ⟨y0, y1⟩ := cells2 hY
    obtain ⟨a0, a1, a2, a3, a4, a5, a6, a7, a8, a9⟩ := cells10 ((hX.below hbw).below hbu)
    rw [← hu1] at y0 y1 a0 a1 a2 a3 a4 a5 a6 a7 a8 a9
    have HU := Hid.mk' hu1
    have hbwu := hbw.trans (hbu.mono hbw.size)
    have HCX := Hid.mk' (HC4.out u1 hbwu)
    clear hu1
    go_wp2_with fail
    rw [HU.out]
    refine HCX.out.mono ?_
    rintro e w9 ⟨rfl, hb9⟩
    have hb99 := hb.trans ((hbu.trans (hb9.mono hbu.size)).mono hb.size)
    have hbW9 := hbwu.trans (hb9.mono hbwu.size)
    clear y0 y1 a0 a1 a2 a3 a4 a5 a6 a7 a8 a9 g0 g1 g2 g3 g4 g5 g6 g7 g8 g9 HCX HU
    obtain ⟨y0, y1⟩ := cells2 (hY.below hb9)
    cases r4
    · go_wp2_with fail
      go_ret
      exact ⟨by rw [HR.out]; rfl, hB.trans (hbW9.mono hB.size)⟩
    · go_wp2_with fail
      go_roundw
      case rel => exact ⟨hb99, .inr (.inr (.inr (.inr (.inr (⟨by first | rfl | trivial, by first | rfl | trivial, by first | rfl | trivial, by first | rfl | trivial, by first | rfl | trivial, by first | rfl | trivial⟩)))))⟩
      case measure => simp [intOf]
  · subst hr0 hr1 hr2 hr3 hr4
    have hu := HUN.out rfl
    subst hu
    clear g0 g1 g2 g3 g4 g5 g6 g7 g8 g9 HUN
    go_wp2_with fail
    go_ret
    exact ⟨by rw [HR.out]; rfl, hB.trans (hbw.mono hB.size)⟩
end wos
namespace recs
open Go Go.RowKit base pairs ords
theorem go_recOk : ∀ (l : List Rc) (s t : St), replayGo s l = some t → ∀ r ∈ l, recOk r = true
 | [], _, _, _, r, hr => absurd hr List.not_mem_nil
 | x :: l, s, t, e, r, hr => by
  rw [replayGo] at e
  split at e
  · cases e
  · next u hu =>
    rcases List.mem_cons.1 hr with rfl | hr
    · unfold one at hu
      split at hu
      · assumption
      · cases hu
    · exact go_recOk l u t e r hr
theorem Right.recOk {s : Shd} (h : Right s) : ∀ r ∈ s.2.1, recs.recOk r = true := by
 obtain ⟨seen, hm⟩ := h.made
 exact go_recOk _ _ _ hm
end recs
namespace recs
open Go Go.RowKit base pairs ords
def Ended (l : List Rc) : Prop := ∀ r ∈ l, r.1 = 2 ∨ r.1 = 3 → lastKind r.2.1 l = r.1
theorem ended_step {l : List Rc} {s t : St} {x : Rc} (hS : Stood l s) (h : Ended l) (ho : one s x = some t) : Ended (l ++ [x]) := by
 intro r hr h1
 rw [lastKind_snoc]
 rcases List.mem_append.1 hr with e | e
 · have hk := h r e h1
   split
   · next ex =>
     exfalso
     have hseen : x.2.1 ∈ s.2.2 := by
      rw [ex]
      exact (hS.seen r.2.1).2 (by omega)
     have hnh : placeTx x.2.1 s.2.1 = none := by
      rw [ex]
      refine placeTx_no fun y hy e2 => ?_
      have := (hS.held r.2.1).1 ⟨y, hy, e2⟩
      omega
     unfold one at ho
     split at ho
     · split at ho
       · split at ho
         · cases ho
         · next hn => exact hn (.inl (by simpa using hseen))
       · split at ho
         · split at ho
           · next h3 => exact h3.2 hseen
           · cases ho
         · next k hp => rw [hnh] at hp; cases hp
     · cases ho
   · exact hk
 · rw [List.mem_singleton.1 e, if_pos rfl]
theorem ended_go : ∀ (l pre : List Rc) (s t : St), Stood pre s → Ended pre → replayGo s l = some t → Ended (pre ++ l)
 | [], pre, s, t, _, h, e => by simpa using h
 | r :: l, pre, s, t, hS, h, e => by
  rw [replayGo] at e
  split at e
  · cases e
  · next u hu =>
    have := ended_go l (pre ++ [r]) u t (stood_step hS hu) (ended_step hS h hu) e
    simpa using this
theorem Right.ended {s : Shd} (h : Right s) : Ended s.2.1 := by
 obtain ⟨seen, hm⟩ := h.made
 have := ended_go s.2.1 [] _ _ stood_start (fun r hr => absurd hr List.not_mem_nil) hm
 simpa using this
end recs
end Go.Proofs.YtijplooogplccaaGreat
