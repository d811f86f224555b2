/- RecY Later StepCall RecZc ShardMath -/
import Derived.Test.YtijplooogplccaaGreatShan
import Derived.Test.YtijplooogplccaaGreatShad
import Derived.Deep.RegionHeld
import Derived.Deep.RegionLaw
import Derived.WalkKit
import Derived.WalkSpells
import Derived.WalkLawsBesides
import Derived.Test.YtijplooogplccaaGreatShaj
import Derived.Test.YtijplooogplccaaGreatShae
import Derived.Test.YtijplooogplccaaGreatShaa
set_option linter.unusedVariables false
set_option linter.unusedSimpArgs false
namespace Go.Proofs.YtijplooogplccaaGreat
namespace recs
open Go Go.RowKit base pairs ords
def resM (r : Option St) : List Pr := match r with | none => [] | some s => s.1
def resH (r : Option St) : List Rc := match r with | none => [] | some s => s.2.1
def RepPost (w : World) (r : Option St) (e : Ending) (w' : World) : Prop :=
 ∃ (g np cp g2 c2 : Nat) (hs : List Value), e = .returned (.tuple #[.slice (some ⟨g, 0, none⟩) np cp, .slice (some ⟨g2, 0, none⟩) (resH r).length c2, .bool r.isSome]) ∧
  OwnP w' w.heap.size g np cp (resM r) ∧ OwnR w' w.heap.size (.slice (some ⟨g2, 0, none⟩) (resH r).length c2) (resH r) hs ∧ ¬ BlkR (.slice (some ⟨g2, 0, none⟩) (resH r).length c2) hs g ∧ Below w.heap.size w w'
def PlainR (w : World) (a : Option Addr) (n : Nat) : Prop := ∀ b off, a = some ⟨b, off, none⟩ → ∀ i, i < n → ∀ pa pl pc, w.cell? ⟨b, off + i * 3 + 2, none⟩ = some (.slice pa pl pc) → Plain pa
theorem repPost_none {w w' : World} {r : Option St} (hr : r = none) (hb : Below w.heap.size w w') : RepPost w r (.returned (.tuple #[.slice (some ⟨w'.heap.size, 0, none⟩) 0 0, .slice (some ⟨w'.heap.size + 1, 0, none⟩) 0 0, .bool false])) ((w'.alloc (.cells #[] 151)).alloc (.cells #[] 133)) := by
 subst hr
 have hb1 : Below w'.heap.size w' (w'.alloc (.cells #[] 151)) := (Below.refl _ _).alloc (Nat.le_refl _) _
 have hB1 := hb.trans (hb1.mono hb.size)
 have hb2 := (Below.refl _ (w'.alloc (.cells #[] 151))).alloc (Nat.le_refl _) (.cells #[] 133)
 have hO := (ownP_made w' w.heap.size hb.size).below hb2
 have hR := ownR_made (w'.alloc (.cells #[] 151)) w.heap.size hB1.size
 rw [show (w'.alloc (.cells #[] 151)).heap.size = w'.heap.size + 1 by simp] at hR
 refine ⟨w'.heap.size, 0, 0, w'.heap.size + 1, 0, [], rfl, hO, hR, ?_, hB1.trans (hb2.mono hB1.size)⟩
 rintro (e | ⟨y, hy, _⟩)
 · simp [Value.ownBlock] at e
 · exact absurd hy List.not_mem_nil
theorem made_start (w : World) : Made w ((((w.alloc (.cells #[] 151)).alloc (.map #[] 0)).alloc (.map #[] 0)).alloc (.cells #[.slice (some ⟨w.heap.size, 0, none⟩) 0 0, .map (some (w.heap.size + 1)), .map (some (w.heap.size + 1 + 1))] 231))
 (w.heap.size + 1 + 1 + 1) (w.heap.size + 1) (w.heap.size + 1 + 1) 0 0 w.heap.size 0 0 (fun _ => (0, 0, [])) (fun _ => 0) [] := by
 obtain ⟨wa, hwa⟩ : ∃ wa, wa = w.alloc (.cells #[] 151) := ⟨_, rfl⟩
 have ba : Below w.heap.size w wa := by rw [hwa]; exact (Below.refl _ _).alloc (Nat.le_refl _) _
 have oa : OwnP wa w.heap.size w.heap.size 0 0 [] := by rw [hwa]; exact ownP_made w _ (Nat.le_refl _)
 have sa : wa.heap.size = w.heap.size + 1 := by rw [hwa]; simp
 rw [← hwa]
 clear hwa
 obtain ⟨wb, hwb⟩ : ∃ wb, wb = wa.alloc (.map #[] 0) := ⟨_, rfl⟩
 have bb : Below wa.heap.size wa wb := by rw [hwb]; exact (Below.refl _ _).alloc (Nat.le_refl _) _
 have lb : Lasts w wb wa.heap.size 0 (fun _ => (0, 0, [])) := by rw [hwb]; exact lasts_made w wa
 have sb : wb.heap.size = w.heap.size + 1 + 1 := by rw [hwb]; simp [sa]
 rw [← hwb]
 clear hwb
 obtain ⟨wc, hwc⟩ : ∃ wc, wc = wb.alloc (.map #[] 0) := ⟨_, rfl⟩
 have bc : Below wb.heap.size wb wc := by rw [hwc]; exact (Below.refl _ _).alloc (Nat.le_refl _) _
 have tc : Tally wc wb.heap.size 0 (fun _ => 0) := by rw [hwc]; exact tally_made wb
 have sc : wc.heap.size = w.heap.size + 1 + 1 + 1 := by rw [hwc]; simp [sb]
 rw [← hwc]
 clear hwc
 have bd := (Below.refl _ wc).alloc (Nat.le_refl _) (.cells #[.slice (some ⟨w.heap.size, 0, none⟩) 0 0, .map (some (w.heap.size + 1)), .map (some (w.heap.size + 1 + 1))] 231)
 have xd := heap_alloc_new wc (.cells #[.slice (some ⟨w.heap.size, 0, none⟩) 0 0, .map (some (w.heap.size + 1)), .map (some (w.heap.size + 1 + 1))] 231)
 rw [sa] at lb
 rw [sb] at tc
 rw [sc] at xd
 have B1 := ba.trans (bb.mono ba.size)
 have B2 := B1.trans (bc.mono B1.size)
 exact ⟨xd, (lb.below bc).below bd, tc.below bd, ((oa.below bb).below bc).below bd, B2.trans (bd.mono B2.size), by omega, by omega, by omega, by omega, by omega, by omega, by omega, by omega, by omega⟩
theorem Rel.eight {pre : List Rc} {s : St} {f : Int → Rc} {hf : ByteArray → Nat} (h : Rel pre s f hf) (tx : Int) : (f tx).2.2.length ≤ 8 ∧ ((f tx).1 = 1 → (f tx).2.2 ≠ []) := by
 by_cases e : (f tx).1 = 1
 · obtain ⟨h1, h2⟩ := h.back tx e
   obtain ⟨_, h3, h4⟩ := h.held _ h1
   obtain ⟨_, ⟨_, h5⟩ | ⟨h5, _⟩⟩ := (recOk_iff _).1 h3
   · obtain ⟨_, h6, h7⟩ := (opsOk_iff _).1 h5
     exact ⟨h7, fun _ e2 => by rw [e2] at h6; simp at h6⟩
   · omega
 · rw [h.bare tx e]; exact ⟨by simp, fun e2 => absurd e2 e⟩
set_option maxRecDepth 100000 in
set_option maxHeartbeats 4000000 in
theorem impl_replay (a : Option Addr) (len cap : Nat) (l : List Rc) (w : World) (h : SlR w a len l) (hpl : PlainR w a len) (hsz : len ≤ 1099511627776 / 16) (hops : ∀ r ∈ l, r.2.2.length ≤ 1099511627776 ∧ ∀ p ∈ r.2.2, p.2.1.size ≤ 1099511627776) :
 Calls Tryz.prog 136 #[.slice a len cap] w fun e w' => RepPost w (replay l) e w' := by
 obtain ⟨hl, hm, hsm, hc⟩ := id h
 subst hl
 unfold maxLen at hm
 have hmm := @run_makeMap Tryz.prog
 generalize hR : replay l = R
 have HR0 : Hid (R = replayGo ([], [], []) (l.drop 0)) := by show _ = _; rw [← hR]; rfl
 clear hR
 go_enter Tryz.func136, Tryz.ntmps136
 go_wp2_with (at_builtin; fail)
 clear hmm
 go_loopw [14] (fun i wr => ∃ (k g np cp n1 n2 : Nat) (f : Int → Rc) (hf : ByteArray → Nat) (s : St), k ≤ l.length ∧ i = .int .i64 (k : Int) ∧ Made w wr (w.heap.size + 1 + 1 + 1) (w.heap.size + 1) (w.heap.size + 1 + 1) n1 n2 g np cp f hf s.1 ∧ Rel (l.take k) s f hf ∧ n1 ≤ k ∧ n2 ≤ 8 * k ∧ Hid (R = replayGo s (l.drop k))) (fun i _ => l.length - (intOf i).toNat)
 case atStart => exact ⟨0, _, 0, 0, 0, 0, _, _, ([], [], []), Nat.zero_le _, rfl, made_start w, rel_start, Nat.le_refl _, Nat.le_refl _, HR0⟩
 case round =>
  clear HR0
  obtain ⟨k, g, np, cp, n1, n2, f, hf, s, hk, rfl, hM, hRel, hn1, hn2, HR⟩ := hrel
  have hnp := hM.own.1
  have hfew := hRel.few
  by_cases hlt : k < l.length
  · obtain ⟨b, off, ha, _⟩ := hc (by omega)
    subst ha
    have hat := h.at k hlt
    obtain ⟨c0', c1', pa, pl, pc, c2', hSo, _⟩ := hat
    have hpp : Plain pa := hpl b off rfl k hlt pa pl pc c2'
    have hbw := World.block_lt_of_cell? w _ c0'
    have c0 := (hM.bel.cell (p := ⟨b, off + k * 3, none⟩) hbw).trans c0'
    have c1 := (hM.bel.cell (p := ⟨b, off + k * 3 + 1, none⟩) hbw).trans c1'
    have c2 := (hM.bel.cell (p := ⟨b, off + k * 3 + 2, none⟩) hbw).trans c2'
    have hki : (k : Int) < (l.length : Int) := by omega
    obtain ⟨hol, hks⟩ := hops _ (List.getElem_mem hlt)
    have hst := rel_step hRel l[k]
    have HD : Hid (R = match one s l[k] with | none => none | some t => replayGo t (l.drop (k + 1))) := by
     show _ = _
     rw [HR.out, List.drop_eq_getElem_cons hlt]; rfl
    have HTK : Hid (l.take (k + 1) = l.take k ++ [l[k]]) := List.take_succ_eq_append_getElem hlt
    have hr8 := hRel.eight l[k].2.1
    generalize l[k] = r at *
    clear c0' c1' c2' hbw HR
    obtain ⟨V, hV⟩ : ∃ V, V = wr.alloc (.cells #[.int .i64 r.1, .int .i64 r.2.1, .slice pa pl pc] 133) := ⟨_, rfl⟩
    have hbV : Below wr.heap.size wr V := by rw [hV]; exact (Below.refl _ _).alloc (Nat.le_refl _) _
    have hbx : BoxR wr.heap.size r.1 r.2.1 (.slice pa pl pc) V := by rw [hV]; exact boxR_new _ _ _ _
    have hMV := hM.below hbV
    have HF := Hid.mk' (i_fits (w.heap.size + 1 + 1 + 1) (w.heap.size + 1) (w.heap.size + 1 + 1) n1 n2 g np cp f hf s.1 r.1 r.2.1 pa pl pc r.2.2 w V hMV.box hMV.lasts hMV.tally hMV.own.sl (by omega) (hSo.below hMV.bel) hks)
    have HV := Hid.mk' hV.symm
    clear hV hM hbV
    have HTAKE : Hid (∀ wx, fitsP s.1 f hf r = true → Below V.heap.size V wx → Calls Tryz.prog 156 #[.pointer (some ⟨w.heap.size + 1 + 1 + 1, 0, none⟩), .agg #[.int .i64 r.1, .int .i64 r.2.1, .slice pa pl pc]] wx fun e w' => ∃ g' np' cp', e = .returned (.tuple #[]) ∧ Made w w' (w.heap.size + 1 + 1 + 1) (w.heap.size + 1) (w.heap.size + 1 + 1) (n1 + 1) (n2 + pl) g' np' cp' (updR f r.2.1 r) (nextH f hf r) (nextP s.1 f r)) := fun wx hfit hx => by
     have hok : recOk r = true := by
      unfold fitsP at hfit
      rw [Bool.and_eq_true] at hfit
      exact hfit.1
     obtain ⟨⟨ht1, ht2⟩, hcase⟩ := (recOk_iff r).1 hok
     have hp8 : r.2.2.length ≤ 8 := by
      rcases hcase with ⟨_, h1⟩ | ⟨_, h1⟩
      · exact ((opsOk_iff _).1 h1).2.2
      · rw [h1]; simp
     have hpe := hSo.1
     exact i_take (w.heap.size + 1 + 1 + 1) (w.heap.size + 1) (w.heap.size + 1 + 1) n1 n2 g np cp f hf s.1 r.1 r.2.1 pa pl pc r.2.2 w wx (hMV.below hx) hSo hpp ht1 ht2 (by omega) (by omega) (by omega) (by omega) hr8.1 (fun e2 => hr8.2 (by
      have := (rel_fits hRel r hok).1 hfit
      rw [if_neg (by omega), if_pos e2] at this
      exact this))
    have hpl8 : Hid (fitsP s.1 f hf r = true → pl ≤ 8) := fun hfit => by
     have hok : recOk r = true := by
      unfold fitsP at hfit
      rw [Bool.and_eq_true] at hfit
      exact hfit.1
     have hpe := hSo.1
     obtain ⟨_, ⟨_, h1⟩ | ⟨_, h1⟩⟩ := (recOk_iff r).1 hok
     · have := ((opsOk_iff _).1 h1).2.2; omega
     · rw [h1] at hpe; simp at hpe; omega
    rcases hst with ⟨t, ho, hfit, ht1, htl, hRel'⟩ | ⟨ho, hno⟩
    · have hfit2 : fitsP s.1 f hf (r.1, r.2.1, r.2.2) = true := hfit
      rw [hfit2] at HF
      have hp8 := hpl8.out hfit
      have HRN : Hid (R = replayGo t (l.drop (k + 1))) := by show _ = _; rw [HD.out, ho]
      rw [← HTK.out] at hRel'
      clear HD ho HTK
      go_wp2_with (at_builtin; fail)
      rw [HV.out]
      refine HF.out.mono ?_
      rintro e w2 ⟨rfl, hb2⟩
      obtain ⟨d0, d1, d2⟩ := (hbx.below hb2).cells
      have HTK2 := Hid.mk' (HTAKE.out w2 hfit hb2)
      clear HF HV c0 c1 c2 HTAKE
      go_wp2_with (at_builtin; fail)
      refine HTK2.out.mono ?_
      rintro e w4 ⟨g4, np4, cp4, rfl, hM4⟩
      have hn4 := hM4.own.1
      rw [← ht1] at hM4 hn4
      obtain ⟨x0, x1, x2⟩ := hM4.box.cells
      have hle : ¬ (60 : Int) < (np4 : Int) := by omega
      clear HTK2 d0 d1 d2
      go_wp2_with (at_builtin; fail)
      go_roundw
      case rel => exact ⟨k + 1, g4, np4, cp4, n1 + 1, n2 + pl, _, _, t, by omega, by go_num, hM4, hRel', by omega, by omega, HRN⟩
      case measure => simp [intOf]; omega
    · have HRN : Hid (R = none) := by show _ = _; rw [HD.out, ho]
      rcases hno with hfit | ⟨hfit, hbig⟩
      · have hfit2 : fitsP s.1 f hf (r.1, r.2.1, r.2.2) = false := hfit
        rw [hfit2] at HF
        clear HD ho HTK HTAKE
        go_wp2_with (at_builtin; fail)
        rw [HV.out]
        refine HF.out.mono ?_
        rintro e w2 ⟨rfl, hb2⟩
        have hB2 := hMV.bel.trans (hb2.mono hMV.bel.size)
        have HP := Hid.mk' (repPost_none HRN.out hB2)
        clear HF HV c0 c1 c2
        go_wp2_with (at_builtin; fail)
        go_ret3
        exact HP.out
      · have hfit2 : fitsP s.1 f hf (r.1, r.2.1, r.2.2) = true := hfit
        rw [hfit2] at HF
        clear HD ho HTK
        go_wp2_with (at_builtin; fail)
        rw [HV.out]
        refine HF.out.mono ?_
        rintro e w2 ⟨rfl, hb2⟩
        obtain ⟨d0, d1, d2⟩ := (hbx.below hb2).cells
        have HTK2 := Hid.mk' (HTAKE.out w2 hfit hb2)
        clear HF HV c0 c1 c2 HTAKE
        go_wp2_with (at_builtin; fail)
        refine HTK2.out.mono ?_
        rintro e w4 ⟨g4, np4, cp4, rfl, hM4⟩
        have hn4 := hM4.own.1
        obtain ⟨x0, x1, x2⟩ := hM4.box.cells
        have hle : (60 : Int) < (np4 : Int) := by omega
        have hcm := hM4.own.cases
        have HP := Hid.mk' (repPost_none HRN.out hM4.bel)
        clear HTK2 d0 d1 d2
        go_wp2_with (at_builtin; fail)
        go_ret3
        exact HP.out
  · have HE : Hid (l.take k = l) := List.take_of_length_le (by omega)
    rw [HE.out] at hRel
    have HRN : Hid (R = some s) := by
     show _ = _
     rw [HR.out, List.drop_eq_nil_of_le (by omega)]; rfl
    have hex : ¬ (k : Int) < (l.length : Int) := by omega
    have hSR := h.below hM.bel
    have hstl := hRel.still
    have HHO : Hid (∀ wx, Below wr.heap.size wr wx → Calls Tryz.prog 157 #[.pointer (some ⟨w.heap.size + 1 + 1 + 1, 0, none⟩), .slice a l.length cap] wx fun e w' => ∃ g2 c2 hs, e = .returned (.slice (some ⟨g2, 0, none⟩) s.2.1.length c2) ∧ OwnR w' wx.heap.size (.slice (some ⟨g2, 0, none⟩) s.2.1.length c2) s.2.1 hs ∧ Below wx.heap.size wx w') := fun wx hx => by
     have := i_heldOf (w.heap.size + 1 + 1 + 1) (w.heap.size + 1) (w.heap.size + 1 + 1) n1 _ f a l.length cap l w wx (hM.below hx).box (hM.below hx).lasts (hSR.below hx) (by omega) (fun r hr => (hops r hr).1)
     rw [← hstl] at this
     exact this
    clear hstl
    obtain ⟨x0, x1, x2⟩ := hM.box.cells
    have hdr : Below wr.heap.size wr wr.drew := (Below.refl _ _).drew
    go_wp2_with (at_builtin; fail)
    go_region_with (go_at_call 157; refine (HHO.out _ hdr).mono ?_; rintro e w5 ⟨g2, c2, hs2, rfl, hO5, hb5⟩; have hb5 := hdr.trans (hb5.mono hdr.size); obtain ⟨y0, y1, y2⟩ := (hM.below hb5).box.cells)
    all_goals
     have hM5 := hM.below hb5
     have hg := hM.own.lt
     have HP : Hid (RepPost w R (.returned (.tuple #[.slice (some ⟨g, 0, none⟩) np cp, .slice (some ⟨g2, 0, none⟩) s.2.1.length c2, .bool true])) w5) := by
      show RepPost _ _ _ _
      rw [HRN.out]
      have hOw : OwnR w5 wr.heap.size (.slice (some ⟨g2, 0, none⟩) s.2.1.length c2) s.2.1 hs2 := hO5
      refine ⟨g, np, cp, g2, c2, hs2, rfl, hM5.own, hOw.mono hM.bel.size, fun hb => ?_, hM5.bel⟩
      have := (hOw.lt g hb).1
      omega
     clear hO5 HHO
     go_wp2_with (at_builtin; fail)
     refine bodyPost_ret (v := .tuple #[.slice (some ⟨g, 0, none⟩) np cp, .slice (some ⟨g2, 0, none⟩) s.2.1.length c2, .bool true]) ?_ rfl HP.out
     simp [results, Tryz.results136, go_sem]
end recs
namespace last
open Go Go.RowKit
section
variable {P : Program} {ops : Array Oper} {md : Region.Mode} {Q : Exit → Act → World → Prop} {S : World → Prop} {z : Nat}
def wpAnyL (P : Program) (md : Region.Mode) (ops : Array Oper) (Q : Exit → Act → World → Prop) (S : World → Prop) (z : Nat) : Nat → Array Bool → Act → World → Prop
 | 0, listed, a, w => Region.ready md ops listed = [] ∧ Q .normal a w
 | fuel + 1, listed, a, w =>
  (Region.ready md ops listed = [] → Q .normal a w) ∧
  ∀ i ∈ Region.ready md ops listed, wpOp P ops Q i (fun a' w' => (i ≠ z → S w') ∧ wpAnyL P md ops Q S z fuel (listed.setIfInBounds i true) a' w') a w
theorem wpAny_of_later : ∀ (fuel : Nat) (listed : Array Bool) (a : Act) (w : World), wpAnyL P md ops Q S z fuel listed a w → wpAny P md ops Q fuel listed a w
 | 0, _, _, _, h => h
 | fuel + 1, _, _, _, h => ⟨h.1, fun i hi => wpOp_mono (fun a' w' h' => wpAny_of_later fuel _ a' w' h'.2) (h.2 i hi)⟩
theorem wpAnyL_first {i : Nat} {oi : Oper} {v : Value} (hi : ops[i]? = some oi) (hsel : ∀ (j : Nat) (o : Oper) cs b, ops[j]? = some o → o.op ≠ .select cs b)
 (hQ : ∀ c a w, Q (.panic c) (a.put oi.dst v) w → Q (.panic c) a w) {oz : Oper} (hz : ops[z]? = some oz) (hzi : ∃ e ∈ oz.after, Region.binds md e = true ∧ e.on = i) :
 ∀ (fuel : Nat) (listed : Array Bool) (a : Act) (w : World),
  (∀ j oj, ops[j]? = some oj → j ≠ i → listed.getD j true = false → (∀ e ∈ oj.after, Region.binds md e = true → e.on ≠ i) → oi.apart ops oj = true) →
  i ∈ Region.ready md ops listed → YieldsIf P ops S oi v a → S w →
  wpAnyL P md ops Q S z fuel (listed.setIfInBounds i true) (a.put oi.dst v) w → wpAnyL P md ops Q S z (fuel + 1) listed a w := by
 have hnz : ∀ {listed : Array Bool} {j : Nat}, i ∈ Region.ready md ops listed → j ∈ Region.ready md ops listed → j ≠ z := fun hr hj e => by
  subst e
  obtain ⟨e, he, hb, heq⟩ := hzi
  exact both_ready hr hj hz e he hb heq
 intro fuel
 induction fuel with
 | zero =>
  intro listed a w _ hr hy hS H
  refine ⟨fun h => (by rw [h] at hr; cases hr), fun j hj => ?_⟩
  by_cases hji : j = i
  · subst hji; exact hy.wpOp hi hS ⟨fun _ => hS, H⟩
  · have := ready_mono hj hji
    rw [H.1] at this
    cases this
 | succ fuel ih =>
  intro listed a w hfree hr hy hS H
  refine ⟨fun h => (by rw [h] at hr; cases hr), fun j hj => ?_⟩
  by_cases hji : j = i
  · subst hji; exact hy.wpOp hi hS ⟨fun _ => hS, H⟩
  · have h1 := H.2 j (ready_mono hj hji)
    obtain ⟨hjun, oj, hoj, hall⟩ := mem_ready.1 hj
    have hnot : ∀ e ∈ oj.after, Region.binds md e = true → e.on ≠ i := both_ready hr hj hoj
    have h2 := wpOp_putIf hoj (hfree j oj hoj hji hjun hnot) (fun cs b => hsel i oi cs b hi) (fun cs b => hsel j oj cs b hoj) hQ hy h1
    have hfree' : ∀ k ok, ops[k]? = some ok → k ≠ i → (listed.setIfInBounds j true).getD k true = false →
     (∀ e ∈ ok.after, Region.binds md e = true → e.on ≠ i) → oi.apart ops ok = true := fun k ok hk hki hun hno => by
     refine hfree k ok hk hki ?_ hno
     by_cases hjk : j = k
     · subst hjk; exact hjun
     · rw [getD_set_ne true hjk] at hun; exact hun
    have hjz := hnz hr hj
    refine wpOp_mono (fun a' w' h3 => ⟨h3.2.1, ih (listed.setIfInBounds j true) a' w' hfree' (ready_mono hr (Ne.symm hji)) h3.1 (h3.2.1 hjz) ?_⟩) h2
    rw [Array.setIfInBounds_comm _ _ hji]
    exact h3.2.2
theorem wpAnyL_take {i : Nat} {oi oz : Oper} {v : Value} {fuel : Nat} {listed : Array Bool} {a : Act} {w : World} (hi : ops[i]? = some oi) (hz : ops[z]? = some oz)
 (hs : Region.noSelect ops = true) (hf : Region.free md ops listed i = true) (hr : (Region.ready md ops listed).contains i = true) (hw : waits md oz i = true)
 (hQ : ∀ c a w, Q (.panic c) (a.put oi.dst v) w → Q (.panic c) a w) (hy : YieldsIf P ops S oi v a) (hS : S w)
 (h : wpAnyL P md ops Q S z fuel (listed.setIfInBounds i true) (a.put oi.dst v) w) : wpAnyL P md ops Q S z (fuel + 1) listed a w := by
 have hwz : ∃ e ∈ oz.after, Region.binds md e = true ∧ e.on = i := by
  obtain ⟨e, he, hb⟩ := Array.any_eq_true'.1 hw
  simp only [Bool.and_eq_true, beq_iff_eq] at hb
  exact ⟨e, he, hb⟩
 exact wpAnyL_first hi (Region.noSelect_spec hs) hQ hz hwz fuel listed a w (Region.free_spec hi hf) (by simpa using hr) hy hS h
theorem wpAnyL_one {i : Nat} {o : Oper} {fuel : Nat} {listed : Array Bool} {a : Act} {w : World} (hr : Region.ready md ops listed = [i]) (ho : ops[i]? = some o)
 (h : ∀ K' : Act → World → Prop, Shut (∀ a w, S w → (S w → wpAnyL P md ops Q S z fuel (listed.setIfInBounds i true) a w) → K' a w) → if Region.wanted o (yielded ops a.tmps) = true then Oper.wp P o a w K' Q else K' (a.put o.dst undef) w) :
 wpAnyL P md ops Q S z (fuel + 1) listed a w :=
 by
 refine ⟨fun h0 => ?_, fun j hj => ?_⟩
 · rw [hr] at h0; cases h0
 · rw [hr] at hj
   obtain rfl := List.mem_singleton.1 hj
   exact wpOp_step ho (fun K' hK => h K' (fun a w hS hW => hK a w ⟨fun _ => hS, hW hS⟩))
theorem wpAnyL_last {o : Oper} {fuel : Nat} {listed : Array Bool} {a : Act} {w : World} (hr : Region.ready md ops listed = [z]) (ho : ops[z]? = some o) (hd : Region.ready md ops (listed.setIfInBounds z true) = [])
 (h : ∀ K' : Act → World → Prop, Shut (∀ a w, Q .normal a w → K' a w) → if Region.wanted o (yielded ops a.tmps) = true then Oper.wp P o a w K' Q else K' (a.put o.dst undef) w) :
 wpAnyL P md ops Q S z (fuel + 1) listed a w :=
 by
 refine ⟨fun h0 => ?_, fun j hj => ?_⟩
 · rw [hr] at h0; cases h0
 · rw [hr] at hj
   obtain rfl := List.mem_singleton.1 hj
   refine wpOp_step ho (fun K' hK => h K' (fun a w hq => hK a w ⟨fun h => absurd rfl h, ?_⟩))
   cases fuel with
   | zero => exact ⟨hd, hq⟩
   | succ k => exact ⟨fun _ => hq, by rw [hd]; simp⟩
theorem wp_region_later {id : Nat} {a : Act} {w : World} (z : Nat) (hm : P.follows .mixedOrders = true) (hS : S w.drew)
 (h : S w.drew → wpAnyL P .any ops Q S z ops.size (Array.replicate ops.size false) a w.drew) : (Code.region id ops true).wp P Q a w :=
 wp_region_any hm (wpAny_of_later _ _ _ _ (h hS))
end
end last
namespace stepc
open Go Go.RowKit
end stepc
namespace recs
open Go Go.RowKit base pairs ords
def BoxS (X : Nat) (x y z : Value) (w : World) : Prop := w.heap[X]? = some (.cells #[x, y, z] 148 (0, 0))
section
variable {X : Nat} {x y z : Value} {w w' : World}
theorem BoxS.cells (h : BoxS X x y z w) : w.cell? ⟨X, 0, none⟩ = some x ∧ w.cell? ⟨X, 1, none⟩ = some y ∧ w.cell? ⟨X, 2, none⟩ = some z := by
 unfold BoxS at h
 simp [World.cell?, h]
theorem BoxS.lt (h : BoxS X x y z w) : X < w.heap.size := (Array.getElem?_eq_some_iff.1 h).1
theorem BoxS.below (h : BoxS X x y z w) (hb : Below w.heap.size w w') : BoxS X x y z w' := (hb.block X h.lt).trans h
theorem BoxS.grown {row : Option Nat} (h : BoxS X x y z w) (hg : w.grownBy w' row) (hne : some X ≠ row) : BoxS X x y z w' := (hg.block X h.lt hne).trans h
theorem BoxS.fz (h : BoxS X x y z w) (j : Nat) : w.frozen? ⟨X, j, none⟩ = false := by unfold BoxS at h; simp [World.frozen?, h]
theorem BoxS.ne {b size n : Nat} {e : TypeId} {v : Value} {xs : List Value} (h : BoxS X x y z w) (h2 : w.ownsRow b e size v n xs) (hne : e ≠ 148) : some X ≠ v.ownBlock := by
 intro hk
 rcases h2.2 with ⟨rfl, _⟩ | ⟨g, c, cur, rfl, _, hg, _⟩
 · cases hk
 simp only [Value.ownBlock, Option.some.injEq] at hk
 unfold BoxS at h
 rw [hk, hg] at h
 injection h with h
 injection h with _ he
 exact hne he
end
def OwnQ (w : World) (base : Nat) (v : Value) (zs : List Int) : Prop := w.ownsRow base 3 1 v zs.length (intVals zs)
section
variable {w w' : World} {base : Nat} {v : Value} {zs : List Int}
theorem ownQ_nil (w : World) (base : Nat) : OwnQ w base (.slice none 0 0) [] := World.ownsRow_nil _ _ _ _
theorem OwnQ.sl (h : OwnQ w base v zs) : ∃ a cap, v = .slice a zs.length cap ∧ SlZ w a zs.length zs := by
 rcases h.2 with ⟨rfl, h0⟩ | ⟨g, cap, cur, rfl, _, _, h1, h2, _⟩
 · have : zs = [] := List.eq_nil_of_length_eq_zero h0
   subst this
   exact ⟨none, 0, rfl, rfl, Nat.zero_le _, fun h => absurd h (by simp)⟩
 · exact ⟨_, cap, rfl, OwnZ.sl (base := base) ⟨rfl, h⟩⟩
end
def OwnPV (w : World) (a : Option Addr) (n cap : Nat) (l : List Pr) : Prop := l.length = n ∧ (∀ p ∈ l, small p) ∧ w.ownsRow 0 151 2 (.slice a n cap) n (pairVals l)
section
variable {w w' : World} {a : Option Addr} {g n cap base : Nat} {l : List Pr}
theorem ownPV_of (h : OwnP w base g n cap l) : OwnPV w (some ⟨g, 0, none⟩) n cap l := ⟨h.1, h.2.1, (h.mono (base' := 0) (Nat.zero_le _)).2.2⟩
theorem OwnPV.shape (h : OwnPV w a n cap l) : (a = none ∧ n = 0 ∧ cap = 0 ∧ l = []) ∨ ∃ g, a = some ⟨g, 0, none⟩ ∧ OwnP w 0 g n cap l := by
 obtain ⟨h1, h2, h3⟩ := h
 rcases h3.2 with ⟨e, h0⟩ | ⟨g, c, cur, e, _⟩
 · cases e
   exact .inl ⟨rfl, rfl, rfl, List.eq_nil_of_length_eq_zero h1⟩
 · cases e
   exact .inr ⟨g, rfl, show OwnP w 0 g n cap l from ⟨h1, h2, h3⟩⟩
theorem OwnPV.sl (h : OwnPV w a n cap l) : SlP w a n l := by
 rcases h.shape with ⟨rfl, rfl, rfl, rfl⟩ | ⟨g, rfl, h⟩
 · exact slp_nil _ _
 · exact OwnP.sl h
theorem OwnPV.spot (h : OwnPV w a n cap l) : ∀ ad, a = some ad → ad.spot = none := by
 rcases h.shape with ⟨rfl, _⟩ | ⟨g, rfl, _⟩
 · intro ad e; cases e
 · intro ad e; cases e; rfl
theorem OwnPV.lt (h : OwnPV w a n cap l) (k : Nat) (hk : (Value.slice a n cap).ownBlock = some k) : k < w.heap.size := (h.2.2.lt k hk).2
theorem OwnPV.of_block (h : OwnPV w a n cap l) (hk : ∀ k, (Value.slice a n cap).ownBlock = some k → w'.heap[k]? = w.heap[k]?) : OwnPV w' a n cap l := ⟨h.1, h.2.1, rowR_of_block h.2.2 hk⟩
theorem OwnPV.below (h : OwnPV w a n cap l) (hb : Below w.heap.size w w') : OwnPV w' a n cap l := h.of_block fun k hk => hb.block k (h.lt k hk)
end
structure Kept (N : Prop) (w0 : World) (F0 : List Nat) (w : World) (X : Nat) (am : Option Addr) (nm cm : Nat) (ah : Option Addr) (ch : Nat) (vs : Value) (s : St) (hs : List Value) : Prop where
 box : BoxS X (.slice am nm cm) (.slice ah s.2.1.length ch) vs w
 m : OwnPV w am nm cm s.1
 held : OwnR w 0 (.slice ah s.2.1.length ch) s.2.1 hs
 seen : OwnQ w 0 vs s.2.2
 fr : lay.Frame (X :: F0) w0 w
 newM : ∀ k, (Value.slice am nm cm).ownBlock = some k → k ∈ F0 ∨ w0.heap.size ≤ k
 newH : ∀ k, BlkR (.slice ah s.2.1.length ch) hs k → k ∈ F0 ∨ w0.heap.size ≤ k
 newS : ∀ k, vs.ownBlock = some k → k ∈ F0 ∨ w0.heap.size ≤ k
 nnM : N → am ≠ none
 nnH : N → ah ≠ none
section
variable {N : Prop} {w0 w w' w7 : World} {F0 : List Nat} {X nm cm ch : Nat} {am ah : Option Addr} {vs : Value} {s : St} {hs : List Value}
theorem Kept.below (h : Kept N w0 F0 w X am nm cm ah ch vs s hs) (hb : Below w.heap.size w w') : Kept N w0 F0 w' X am nm cm ah ch vs s hs :=
 ⟨h.box.below hb, h.m.below hb, h.held.below hb, rowR_of_block h.seen fun k hk => hb.block k (h.seen.lt k hk).2, h.fr.below hb, h.newM, h.newH, h.newS, h.nnM, h.nnH⟩
theorem new_at {w0 w : World} {F0 : List Nat} {v : Value} {g H : Nat} (hn : ∀ k, v.ownBlock = some k → k ∈ F0 ∨ w0.heap.size ≤ k) (hat : v.ownBlock = some g ∨ g = H) (hH : w.heap.size = H) (hs : w0.heap.size ≤ w.heap.size) : g ∈ F0 ∨ w0.heap.size ≤ g := by
 rcases hat with e | e
 · exact hn g e
 · exact .inr (by omega)
theorem Kept.heldRow {v : Value} {e : TypeId} {size n : Nat} {xs : List Value} (h : Kept N w0 F0 w X am nm cm ah ch vs s hs) (h2 : w.ownsRow 0 e size v n xs) (h1 : e ≠ 133) (h3 : e ≠ 126) (k : Nat) (hk : BlkR (.slice ah s.2.1.length ch) hs k) : some k ≠ v.ownBlock := by
 intro e0
 rcases hk with e2 | ⟨y, hy, e2⟩
 · exact recRow_ne h.held.row h2 e2 e0.symm (fun e => h1 e.symm)
 · obtain ⟨i, hi, rfl⟩ := List.getElem_of_mem hy
   exact recRow_ne (h.held.ops i (by have := h.held.len; omega)).2 h2 e2 e0.symm (fun e => h3 e.symm)
theorem box_out {y : Value} {l : List Rc} (b7 : BoxS X (.slice am nm cm) (.slice ah s.2.1.length ch) y w) {v : Value} {hs : List Value} (hh : OwnR w 0 v l hs) (k : Nat) (hk : BlkR v hs k) : k ≠ X := by
 intro e
 rcases hk with e2 | ⟨y, hy, e2⟩
 · exact b7.ne hh.row (by decide) (by rw [e2, e])
 · obtain ⟨i, hi, rfl⟩ := List.getElem_of_mem hy
   exact b7.ne (hh.ops i (by have := hh.len; omega)).2 (by decide) (by rw [e2, e])
theorem Kept.see {g7 c7 H : Nat} {z : Int} (h : Kept N w0 F0 w X am nm cm ah ch vs s hs) (hown : w7.ownsRow 0 3 1 (.slice (some ⟨g7, 0, none⟩) (s.2.2.length + 1) c7) (s.2.2.length + 1) (intVals s.2.2 ++ intVals [z])) (hgrow : w.grownBy w7 vs.ownBlock) (hat : vs.ownBlock = some g7 ∨ g7 = H) (hH : w.heap.size = H) :
 BoxS X (.slice am nm cm) (.slice ah s.2.1.length ch) vs w7 ∧ Kept N w0 F0 (w7.setCell ⟨X, 2, none⟩ (.slice (some ⟨g7, 0, none⟩) (s.2.2.length + 1) c7)) X am nm cm ah ch (.slice (some ⟨g7, 0, none⟩) (s.2.2.length + 1) c7) (s.1, s.2.1, s.2.2 ++ [z]) hs := by
 have hX := h.box.ne h.seen (by decide)
 have b7 := h.box.grown hgrow hX
 have hm7 : OwnPV w7 am nm cm s.1 := h.m.of_block fun k hk => hgrow.block k (h.m.lt k hk) (fun e => recRow_ne h.m.2.2 h.seen hk e.symm (by decide))
 have hh7 : OwnR w7 0 (.slice ah s.2.1.length ch) s.2.1 hs := h.held.of_blocks fun k hk => hgrow.block k (h.held.lt k hk).2 (h.heldRow h.seen (by decide) (by decide) k hk)
 have hs7 : OwnQ w7 0 (.slice (some ⟨g7, 0, none⟩) (s.2.2.length + 1) c7) (s.2.2 ++ [z]) := by unfold OwnQ; rw [intVals_append, List.length_append]; exact hown
 have c8 := set_cur b7 2 (.slice (some ⟨g7, 0, none⟩) (s.2.2.length + 1) c7)
 refine ⟨b7, c8.1, hm7.of_block fun k hk => c8.2.block k (hm7.lt k hk) (fun e => b7.ne hm7.2.2 (by decide) (by rw [hk, e])), hh7.of_blocks fun k hk => c8.2.block k (hh7.lt k hk).2 (fun e => box_out b7 hh7 k hk (Option.some.inj e)), rowR_of_block hs7 fun k hk => c8.2.block k (hs7.lt k hk).2 (fun e => b7.ne hs7 (by decide) (by rw [hk, e])), ?_, h.newM, h.newH, fun k hk => ?_, h.nnM, h.nnH⟩
 · have B7 := h.fr.grown hgrow (fun k e => (h.newS k e).imp_left (List.mem_cons_of_mem _))
   exact B7.grown c8.2 (fun k e => .inl (by rw [← Option.some.inj e]; exact List.mem_cons_self))
 · have : g7 = k := by simpa [Value.ownBlock] using hk
   subst this
   exact new_at h.newS hat hH h.fr.size
theorem Kept.hold {g7 c7 H : Nat} {x : Rc} {y : Value} (h : Kept N w0 F0 w X am nm cm ah ch vs s hs) (hP : OwnV w 0 y x.2.2) (hx : smallR x) (hy : ∀ k, y.ownBlock = some k → ¬ BlkR (.slice ah s.2.1.length ch) hs k) (hyn : ∀ k, y.ownBlock = some k → w0.heap.size ≤ k)
 (hown : w7.ownsRow 0 133 3 (.slice (some ⟨g7, 0, none⟩) (s.2.1.length + 1) c7) (s.2.1.length + 1) (recVals s.2.1 hs ++ [.int .i64 x.1, .int .i64 x.2.1, y])) (hgrow : w.grownBy w7 (Value.slice ah s.2.1.length ch).ownBlock) (hat : (Value.slice ah s.2.1.length ch).ownBlock = some g7 ∨ g7 = H) (hH : w.heap.size = H) :
 BoxS X (.slice am nm cm) (.slice ah s.2.1.length ch) vs w7 ∧ Kept N w0 F0 (w7.setCell ⟨X, 1, none⟩ (.slice (some ⟨g7, 0, none⟩) (s.2.1.length + 1) c7)) X am nm cm (some ⟨g7, 0, none⟩) c7 vs (s.1, s.2.1 ++ [x], s.2.2) (hs ++ [y]) := by
 have hX := h.box.ne h.held.row (by decide)
 have b7 := h.box.grown hgrow hX
 have hm7 : OwnPV w7 am nm cm s.1 := h.m.of_block fun k hk => hgrow.block k (h.m.lt k hk) (fun e => recRow_ne h.m.2.2 h.held.row hk e.symm (by decide))
 have hh7 : OwnR w7 0 (.slice (some ⟨g7, 0, none⟩) (s.2.1.length + 1) c7) (s.2.1 ++ [x]) (hs ++ [y]) := h.held.snoc hP hx hy hown hgrow
 have hs7 : OwnQ w7 0 vs s.2.2 := rowR_of_block h.seen fun k hk => hgrow.block k (h.seen.lt k hk).2 (fun e => recRow_ne h.seen h.held.row hk e.symm (by decide))
 have c8 := set_cur b7 1 (.slice (some ⟨g7, 0, none⟩) (s.2.1.length + 1) c7)
 refine ⟨b7, ?_, hm7.of_block fun k hk => c8.2.block k (hm7.lt k hk) (fun e => b7.ne hm7.2.2 (by decide) (by rw [hk, e])), ?_, rowR_of_block hs7 fun k hk => c8.2.block k (hs7.lt k hk).2 (fun e => b7.ne hs7 (by decide) (by rw [hk, e])), ?_, h.newM, fun k hk => ?_, h.newS, h.nnM, fun _ e => by cases e⟩
 · have := c8.1
   simp only [List.length_append, List.length_singleton]
   exact this
 · simp only [List.length_append, List.length_singleton]
   exact hh7.of_blocks fun k hk => c8.2.block k (hh7.lt k hk).2 (fun e => box_out b7 hh7 k hk (Option.some.inj e))
 · have B7 := h.fr.grown hgrow (fun k e => (h.newH k (.inl e)).imp_left (List.mem_cons_of_mem _))
   exact B7.grown c8.2 (fun k e => .inl (by rw [← Option.some.inj e]; exact List.mem_cons_self))
 · rcases hk with e | ⟨z, hz, e⟩
   · have : g7 = k := by simpa [Value.ownBlock] using e
     subst this
     exact new_at (v := .slice ah s.2.1.length ch) (fun j hj => h.newH j (.inl hj)) hat hH h.fr.size
   · rcases List.mem_append.1 hz with e2 | e2
     · exact h.newH k (.inr ⟨z, e2, e⟩)
     · rw [List.mem_singleton.1 e2] at e
       exact .inr (hyn k e)
theorem Kept.pairs {g' n' c' : Nat} {m' : List Pr} (h : Kept N w0 F0 w X am nm cm ah ch vs s hs) (hO : OwnP w w0.heap.size g' n' c' m') :
 Kept N w0 F0 (w.setCell ⟨X, 0, none⟩ (.slice (some ⟨g', 0, none⟩) n' c')) X (some ⟨g', 0, none⟩) n' c' ah ch vs (m', s.2.1, s.2.2) hs := by
 have c8 := set_cur h.box 0 (.slice (some ⟨g', 0, none⟩) n' c')
 have hm := ownPV_of hO
 refine ⟨c8.1, hm.of_block fun k hk => c8.2.block k (hm.lt k hk) (fun e => h.box.ne hm.2.2 (by decide) (by rw [hk, e])), h.held.of_blocks fun k hk => c8.2.block k (h.held.lt k hk).2 (fun e => box_out h.box h.held k hk (Option.some.inj e)), rowR_of_block h.seen fun k hk => c8.2.block k (h.seen.lt k hk).2 (fun e => h.box.ne h.seen (by decide) (by rw [hk, e])), h.fr.grown c8.2 (fun k e => .inl (by rw [← Option.some.inj e]; exact List.mem_cons_self)), fun k hk => ?_, h.newH, h.newS, (fun _ e => by cases e), h.nnH⟩
 have : g' = k := by simpa [Value.ownBlock] using hk
 subst this
 exact .inr hO.lt.1
theorem Kept.cut {g' c' : Nat} {l' : List Rc} {hs' : List Value} (h : Kept N w0 F0 w X am nm cm ah ch vs s hs) (hO : OwnR w 0 (.slice (some ⟨g', 0, none⟩) l'.length c') l' hs') (hg : w0.heap.size ≤ g') (hsub : ∀ y ∈ hs', y ∈ hs) :
 Kept N w0 F0 (w.setCell ⟨X, 1, none⟩ (.slice (some ⟨g', 0, none⟩) l'.length c')) X am nm cm (some ⟨g', 0, none⟩) c' vs (s.1, l', s.2.2) hs' := by
 have c8 := set_cur h.box 1 (.slice (some ⟨g', 0, none⟩) l'.length c')
 refine ⟨c8.1, h.m.of_block fun k hk => c8.2.block k (h.m.lt k hk) (fun e => h.box.ne h.m.2.2 (by decide) (by rw [hk, e])), hO.of_blocks fun k hk => c8.2.block k (hO.lt k hk).2 (fun e => box_out h.box hO k hk (Option.some.inj e)), rowR_of_block h.seen fun k hk => c8.2.block k (h.seen.lt k hk).2 (fun e => h.box.ne h.seen (by decide) (by rw [hk, e])), h.fr.grown c8.2 (fun k e => .inl (by rw [← Option.some.inj e]; exact List.mem_cons_self)), h.newM, fun k hk => ?_, h.newS, h.nnM, fun _ e => by cases e⟩
 rcases hk with e | ⟨y, hy, e⟩
 · have : g' = k := by simpa [Value.ownBlock] using e
   subst this
   exact .inr hg
 · exact h.newH k (.inr ⟨y, hsub y hy, e⟩)
end
end recs
namespace recs
open Go Go.RowKit base pairs ords
abbrev Shd := Int × List Rc × Int × List Pr × List Rc
def shardOk (s : Shd) : Bool :=
  decide (0 ≤ s.1 ∧ s.1 ≤ 7) && decide (s.2.1.length ≤ 300) && decide (0 ≤ s.2.2.1 ∧ s.2.2.1 ≤ (s.2.1.length : Int)) &&
    (match replay s.2.1 with
     | none => false
     | some t => decide (t.1 = s.2.2.2.1) && decide (t.2.1 = s.2.2.2.2) && decide (s.2.1.length + t.2.1.length ≤ 300))
structure Right (s : Shd) : Prop where
 id : 0 ≤ s.1 ∧ s.1 ≤ 7
 made : ∃ seen, replay s.2.1 = some (s.2.2.2.1, s.2.2.2.2, seen)
 sure : 0 ≤ s.2.2.1 ∧ s.2.2.1 ≤ (s.2.1.length : Int)
 room : s.2.1.length + s.2.2.2.2.length ≤ 300
theorem shardOk_iff (s : Shd) : shardOk s = true ↔ Right s := by
 unfold shardOk
 constructor
 · intro h
   simp only [Bool.and_eq_true, decide_eq_true_iff] at h
   obtain ⟨⟨⟨h1, h2⟩, h3⟩, h4⟩ := h
   cases hr : replay s.2.1 with
   | none => rw [hr] at h4; cases h4
   | some t =>
    rw [hr] at h4
    simp only [Bool.and_eq_true, decide_eq_true_iff] at h4
    obtain ⟨⟨h5, h6⟩, h7⟩ := h4
    exact ⟨h1, ⟨t.2.2, by rw [hr, ← h5, ← h6]⟩, h3, by rw [← h6]; exact h7⟩
 · rintro ⟨h1, ⟨seen, h2⟩, h3, h4⟩
   simp only [Bool.and_eq_true, decide_eq_true_iff]
   refine ⟨⟨⟨h1, by omega⟩, h3⟩, ?_⟩
   rw [h2]
   simp [h4]
/-! ### how it is with a transaction -/
def lastKind (tx : Int) (l : List Rc) : Int := l.foldl (fun k r => if r.2.1 = tx then r.1 else k) 0
theorem lastKind_snoc (tx : Int) (l : List Rc) (r : Rc) : lastKind tx (l ++ [r]) = if r.2.1 = tx then r.1 else lastKind tx l := by
 unfold lastKind; rw [List.foldl_append]; rfl
def lastOut (tx : Int) (l : List Rc) : Int := l.foldl (fun o r => if r.2.1 = tx ∧ r.1 = 3 then 4 else if r.2.1 = tx ∧ r.1 = 2 then 3 else o) 2
theorem lastOut_snoc (tx : Int) (l : List Rc) (r : Rc) : lastOut tx (l ++ [r]) = if r.2.1 = tx ∧ r.1 = 3 then 4 else if r.2.1 = tx ∧ r.1 = 2 then 3 else lastOut tx l := by
 unfold lastOut; rw [List.foldl_append]; rfl
structure Stood (l : List Rc) (s : St) : Prop where
 nd : (s.2.1.map fun r => r.2.1).Nodup
 held : ∀ tx, (∃ r ∈ s.2.1, r.2.1 = tx) ↔ lastKind tx l = 1
 seen : ∀ tx, tx ∈ s.2.2 ↔ lastKind tx l ≠ 0
 kinds : ∀ tx, lastKind tx l = 0 ∨ lastKind tx l = 1 ∨ lastKind tx l = 2 ∨ lastKind tx l = 3
 out : ∀ tx, lastKind tx l ≠ 1 → lastOut tx l = if lastKind tx l = 2 then 3 else if lastKind tx l = 3 then 4 else 2
theorem placeTx_no {tx : Int} : ∀ {l : List Rc}, (∀ r ∈ l, r.2.1 ≠ tx) → placeTx tx l = none
 | [], _ => rfl
 | r :: l, hn => by rw [placeTx, if_neg (hn r (by simp)), placeTx_no (fun x hx => hn x (by simp [hx]))]; rfl
theorem cut_mem {α : Type} {l : List α} {x : α} {k : Nat} (hk : k < l.length) (h : x ∈ l) : x ∈ l.take k ++ l.drop (k + 1) ∨ x = l[k] := by
 rw [← List.take_append_drop k l, List.drop_eq_getElem_cons hk] at h
 rcases List.mem_append.1 h with e | e
 · exact .inl (List.mem_append.2 (.inl e))
 · rcases List.mem_cons.1 e with e | e
   · exact .inr e
   · exact .inl (List.mem_append.2 (.inr e))
theorem cut_sub {α : Type} (l : List α) (k : Nat) : (l.take k ++ l.drop (k + 1)).Sublist l := by
 rw [← List.eraseIdx_eq_take_drop_succ]; exact List.eraseIdx_sublist _ _
theorem cut_tx {l : List Rc} {k : Nat} (hnd : (l.map fun r => r.2.1).Nodup) (hk : k < l.length) (tx : Int) (htx : l[k].2.1 = tx) : ∀ r ∈ l.take k ++ l.drop (k + 1), r.2.1 ≠ tx := by
 intro r hr e
 have hsplit : l = l.take k ++ l[k] :: l.drop (k + 1) := by rw [← List.drop_eq_getElem_cons hk, List.take_append_drop]
 rw [hsplit, List.map_append, List.map_cons, List.nodup_append] at hnd
 rcases List.mem_append.1 hr with h1 | h1
 · exact hnd.2.2 _ (List.mem_map.2 ⟨r, h1, e⟩) _ (List.mem_cons.2 (.inl htx.symm)) rfl
 · exact (List.nodup_cons.1 hnd.2.1).1 (List.mem_map.2 ⟨r, h1, by rw [e, htx]⟩)
theorem stood_start : Stood [] ([], [], []) :=
 ⟨List.nodup_nil, fun tx => ⟨fun ⟨r, hr, _⟩ => absurd hr List.not_mem_nil, fun h => by simp [lastKind] at h⟩, fun tx => ⟨fun h => absurd h List.not_mem_nil, fun h => absurd rfl h⟩, fun tx => .inl rfl, fun tx _ => by simp [lastOut, lastKind]⟩
theorem stood_step {l : List Rc} {s t : St} {r : Rc} (h : Stood l s) (ho : one s r = some t) : Stood (l ++ [r]) t := by
 have hkk := h.kinds
 unfold one at ho
 split at ho
 · next hok =>
   have hkind := ((recOk_iff r).1 hok).2
   split at ho
   · next h1 =>
     split at ho
     · cases ho
     · next hn =>
       cases ho
       have hns : r.2.1 ∉ s.2.2 := fun e => hn (.inl (by simpa using e))
       have hk0 : lastKind r.2.1 l = 0 := by
        rcases Classical.em (lastKind r.2.1 l = 0) with e | e
        · exact e
        · exact absurd ((h.seen r.2.1).2 e) hns
       refine ⟨?_, fun tx => ?_, fun tx => ?_, fun tx => ?_, fun tx hne => ?_⟩
       · rw [List.map_append, List.nodup_append]
         refine ⟨h.nd, List.nodup_cons.2 ⟨List.not_mem_nil, List.nodup_nil⟩, fun a ha b hb e => ?_⟩
         obtain ⟨x, hx, rfl⟩ := List.mem_map.1 ha
         obtain ⟨y, hy, rfl⟩ := List.mem_map.1 hb
         rw [List.mem_singleton.1 hy] at e
         have := (h.held r.2.1).1 ⟨x, hx, e⟩
         omega
       · rw [lastKind_snoc]
         constructor
         · rintro ⟨x, hx, e⟩
           rcases List.mem_append.1 hx with e2 | e2
           · split
             · exact h1
             · exact (h.held tx).1 ⟨x, e2, e⟩
           · rw [List.mem_singleton.1 e2] at e
             rw [if_pos e]; exact h1
         · intro e
           split at e
           · next e2 => exact ⟨r, List.mem_append.2 (.inr (by simp)), e2⟩
           · obtain ⟨x, hx, e3⟩ := (h.held tx).2 e
             exact ⟨x, List.mem_append.2 (.inl hx), e3⟩
       · rw [lastKind_snoc]
         constructor
         · intro hx
           split
           · omega
           · next e2 =>
             rcases List.mem_append.1 hx with e | e
             · exact (h.seen tx).1 e
             · exact absurd (List.mem_singleton.1 e).symm e2
         · intro e
           split at e
           · next e2 => exact List.mem_append.2 (.inr (by simp [e2]))
           · exact List.mem_append.2 (.inl ((h.seen tx).2 e))
       · rw [lastKind_snoc]
         split
         · exact .inr (.inl h1)
         · exact h.kinds tx
       · rw [lastKind_snoc] at hne ⊢
         rw [lastOut_snoc]
         split at hne
         · exact absurd h1 hne
         · next e2 =>
           rw [if_neg (fun e => e2 e.1), if_neg (fun e => e2 e.1), if_neg e2]
           exact h.out tx hne
   · next h1 =>
     have hk23 : r.1 = 2 ∨ r.1 = 3 := by
      rcases hkind with ⟨e, _⟩ | ⟨e, _⟩
      · exact absurd e h1
      · exact e
     have hout : ∀ tx, lastKind tx (l ++ [r]) ≠ 1 → (lastKind tx l ≠ 1 ∨ r.2.1 = tx) → lastOut tx (l ++ [r]) = if lastKind tx (l ++ [r]) = 2 then 3 else if lastKind tx (l ++ [r]) = 3 then 4 else 2 := by
      intro tx hne hor
      rw [lastKind_snoc, lastOut_snoc]
      by_cases e2 : r.2.1 = tx
      · rw [if_pos e2]
        rcases hk23 with e | e
        · rw [if_neg (fun x => by omega), if_pos ⟨e2, e⟩, if_pos e]
        · rw [if_pos ⟨e2, e⟩, if_neg (by omega), if_pos e]
      · rw [if_neg (fun e => e2 e.1), if_neg (fun e => e2 e.1), if_neg e2]
        exact h.out tx (hor.resolve_right e2)
     have hkinds : ∀ tx, lastKind tx (l ++ [r]) = 0 ∨ lastKind tx (l ++ [r]) = 1 ∨ lastKind tx (l ++ [r]) = 2 ∨ lastKind tx (l ++ [r]) = 3 := fun tx => by
      rw [lastKind_snoc]
      split
      · omega
      · exact h.kinds tx
     split at ho
     · next hp =>
       split at ho
       · next h3 =>
         cases ho
         have hnone := placeTx_none hp
         refine ⟨h.nd, fun tx => ?_, fun tx => ?_, hkinds, fun tx hne => ?_⟩
         · rw [lastKind_snoc]
           constructor
           · rintro ⟨x, hx, e⟩
             rw [if_neg (fun e2 => hnone x hx (by rw [e, e2]))]
             exact (h.held tx).1 ⟨x, hx, e⟩
           · intro e
             split at e
             · omega
             · exact (h.held tx).2 e
         · rw [lastKind_snoc]
           constructor
           · intro hx
             split
             · omega
             · next e2 =>
               rcases List.mem_append.1 hx with e | e
               · exact (h.seen tx).1 e
               · exact absurd (List.mem_singleton.1 e).symm e2
           · intro e
             split at e
             · next e2 => exact List.mem_append.2 (.inr (by simp [e2]))
             · exact List.mem_append.2 (.inl ((h.seen tx).2 e))
         · refine hout tx hne ?_
           by_cases e2 : r.2.1 = tx
           · exact .inr e2
           · rw [lastKind_snoc, if_neg e2] at hne; exact .inl hne
       · cases ho
     · next k hp =>
       obtain ⟨hk, hkt⟩ := placeTx_some hp
       split at ho
       · cases ho
         have hcut := cut_tx h.nd hk r.2.1 hkt
         have hseen : lastKind r.2.1 l ≠ 0 := by
          have := (h.held r.2.1).1 ⟨_, List.getElem_mem hk, hkt⟩
          omega
         refine ⟨?_, fun tx => ?_, fun tx => ?_, hkinds, fun tx hne => ?_⟩
         · exact h.nd.sublist ((cut_sub s.2.1 k).map _)
         · rw [lastKind_snoc]
           constructor
           · rintro ⟨x, hx, e⟩
             rw [if_neg (fun e2 => hcut x hx (by rw [e, e2]))]
             exact (h.held tx).1 ⟨x, (cut_sub s.2.1 k).subset hx, e⟩
           · intro e
             split at e
             · omega
             · next e2 =>
               obtain ⟨x, hx, e3⟩ := (h.held tx).2 e
               rcases cut_mem hk hx with e4 | e4
               · exact ⟨x, e4, e3⟩
               · rw [e4, hkt] at e3; exact absurd e3 e2
         · rw [lastKind_snoc]
           constructor
           · intro hx
             split
             · omega
             · exact (h.seen tx).1 hx
           · intro e
             split at e
             · next e2 => rw [← e2]; exact (h.seen _).2 hseen
             · exact (h.seen tx).2 e
         · refine hout tx hne ?_
           by_cases e2 : r.2.1 = tx
           · exact .inr e2
           · rw [lastKind_snoc, if_neg e2] at hne; exact .inl hne
       · cases ho
 · cases ho
def outc (s : Shd) (tx : Int) : Int := if (placeTx tx s.2.2.2.2).isSome = true then 1 else lastOut tx s.2.1
/-! ### what is written -/
def forced (m : List Pr) (held : List Rc) (r : Rc) : List Pr × List Rc :=
 if r.1 = 1 then (m, held ++ [r]) else match placeTx r.2.1 held with
  | none => (m, held)
  | some k => (nextM (m, held, []) r k, held.take k ++ held.drop (k + 1))
def written (s : Shd) (r : Rc) : Shd := (s.1, s.2.1 ++ [r], s.2.2.1, (forced s.2.2.2.1 s.2.2.2.2 r).1, (forced s.2.2.2.1 s.2.2.2.2 r).2)
/-! ### what a shard does -/
end recs
end Go.Proofs.YtijplooogplccaaGreat
