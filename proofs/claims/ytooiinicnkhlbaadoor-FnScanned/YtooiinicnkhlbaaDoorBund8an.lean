/- The specification's records as bytes. The program's orders as bytes. addNum writes into its own row alone: every other block is as it was. The program's turns of words. -/
import Derived.Test.YtooiinicnkhlbaaDoorBund8aj
import Derived.Test.YtooiinicnkhlbaaDoorBund8al
import Derived.Test.YtooiinicnkhlbaaDoorBund8am
import Derived.Test.YtooiinicnkhlbaaDoorBund8ad
import Derived.Deep.AppendLies
import Derived.Test.YtooiinicnkhlbaaDoorBund8af
namespace Go.Proofs.YtooiinicnkhlbaaDoor.recs
open Go Go.RowKit Go.Proofs.YtooiinicnkhlbaaDoor.base Go.Proofs.YtooiinicnkhlbaaDoor.pairs Go.Proofs.YtooiinicnkhlbaaDoor.ords Go.Proofs.YtooiinicnkhlbaaDoor.putnum Go.Proofs.YtooiinicnkhlbaaDoor.puttext Go.Proofs.YtooiinicnkhlbaaDoor.getnum Go.Proofs.YtooiinicnkhlbaaDoor.gettext
set_option linter.unusedVariables false
set_option linter.unusedSimpArgs false

theorem keepR {X : Nat} {kind tx : Int} {v : Value} {w w' : World} (hb : Below w.heap.size w w') (h : BoxR X kind tx v w ∧ w.cell? ⟨X, 0, none⟩ = some (.int .i64 kind) ∧ w.cell? ⟨X, 1, none⟩ = some (.int .i64 tx)) :
    BoxR X kind tx v w' ∧ w'.cell? ⟨X, 0, none⟩ = some (.int .i64 kind) ∧ w'.cell? ⟨X, 1, none⟩ = some (.int .i64 tx) :=
  ⟨h.1.below hb, (h.1.below hb).cells.1, (h.1.below hb).cells.2.1⟩
theorem keepRa {X : Nat} {kind tx : Int} {v : Value} {w : World} {o : Obj} (h : BoxR X kind tx v w ∧ w.cell? ⟨X, 0, none⟩ = some (.int .i64 kind) ∧ w.cell? ⟨X, 1, none⟩ = some (.int .i64 tx)) :
    BoxR X kind tx v (w.alloc o) ∧ (w.alloc o).cell? ⟨X, 0, none⟩ = some (.int .i64 kind) ∧ (w.alloc o).cell? ⟨X, 1, none⟩ = some (.int .i64 tx) := keepR ((Below.refl _ _).alloc (Nat.le_refl _) _) h
theorem digest_cut (bs : List UInt8) : ((⟨(sha.digest bs).toArray⟩ : ByteArray).extract 0 4).data.toList = sum4 bs := by
  simp [ByteArray.data_extract, sum4]
theorem recOk_keys {r : Rc} (h : recOk r = true) : ∀ p ∈ r.2.2, p.2.1.size ≤ 1099511627776 := by
  intro p hp
  obtain ⟨_, ⟨_, h2⟩ | ⟨_, h2⟩⟩ := (recOk_iff r).1 h
  · have := keyOk_size ((odOk_iff p).1 (((opsOk_iff _).1 h2).1.1 p hp)).2.2.1; omega
  · rw [h2] at hp; exact absurd hp List.not_mem_nil

/-- a row of bytes behind another -/
theorem own_cat {w' : World} {base n m : Nat} {v' : Value} {bs ns : List UInt8} (hl : bs.length = n) (hln : ns.length = m) (h0 : ¬ v' = .slice none 0 0) (h : w'.ownsRow base 5 1 v' (n + m) (byteVals bs ++ byteVals ns)) :
    ∃ g' cap', v' = .slice (some ⟨g', 0, none⟩) (n + m) cap' ∧ Own w' base g' (n + m) cap' (bs ++ ns) := own_app hl hln rfl h0 h

set_option maxRecDepth 100000 in
set_option maxHeartbeats 4000000 in
theorem spec_putRec (kind tx : Int) (a : Option Addr) (len cap : Nat) (l : List Od) (w : World) (h : SlO w a len l) (hks : ∀ p ∈ l, p.2.1.size ≤ 1099511627776) :
    Calls Tryd.prog 25 #[.agg #[.int .i64 kind, .int .i64 tx, .slice a len cap]] w fun e w' =>
      ∃ g' n' cap', e = .returned (.slice (some ⟨g', 0, none⟩) n' cap') ∧ Own w' w.heap.size g' n' cap' (putRec (kind, tx, l)) ∧ Below w.heap.size w w' := by
  obtain ⟨i0, hi, hz0, hz1, hz2⟩ := info_parts info8
  obtain ⟨W, hW⟩ : ∃ W, W = w.alloc (.cells #[.int .i64 kind, .int .i64 tx, .slice a len cap] 26) := ⟨_, rfl⟩
  have hba : Below w.heap.size w W := by rw [hW]; exact (Below.refl _ _).alloc (Nat.le_refl _) _
  have hbx : BoxR w.heap.size kind tx (.slice a len cap) W := by rw [hW]; exact boxR_new _ _ _ _
  have HOK := Hid.mk' (spec_recOk kind tx a len cap l W (h.below hba) hks)
  have HW := Hid.mk' hW.symm
  clear hW
  cases hok : recOk (kind, tx, l)
  · rw [hok] at HOK
    have HP : Hid (putRec (kind, tx, l) = []) := by show _ = _; unfold putRec; rw [hok]; rfl
    clear hok
    go_enter Tryd.func25, Tryd.ntmps25
    go_wp2_with (at_builtin; fail)
    rw [HW.out]
    refine HOK.out.mono ?_
    rintro e w1 ⟨rfl, hb1⟩
    have hB1 := hba.trans (hb1.mono hba.size)
    have hO1 := own_made w1 w.heap.size hB1.size
    clear HOK HW hbx
    go_wp2_with (at_builtin; fail)
    go_ret
    exact ⟨_, _, _, rfl, by rw [HP.out]; exact hO1, hB1.alloc hB1.size _⟩
  · rw [hok] at HOK
    have HP : Hid (putRec (kind, tx, l) = recBytes (kind, tx, l)) := by show _ = _; unfold putRec; rw [hok]; rfl
    obtain ⟨⟨ht1, ht2⟩, hcase⟩ := (recOk_iff _).1 hok
    simp only [] at ht1 ht2 hcase
    have hkr : 1 ≤ kind ∧ kind ≤ 3 := by rcases hcase with ⟨h1, _⟩ | ⟨h1, _⟩ <;> omega
    have hkf : (Lit.int .i64 kind).wf = true := WalkArith.wf_i64 (by omega)
    have htf : (Lit.int .i64 tx).wf = true := WalkArith.wf_i64 (by omega)
    have hnk := numBytes_length kind
    have hnt := numBytes_length tx
    have hps := putOps_small l
    have HC := Hid.mk' hcase
    clear hok hcase
    go_enter Tryd.func25, Tryd.ntmps25
    go_wp2_with (at_builtin; fail)
    rw [HW.out]
    refine HOK.out.mono ?_
    rintro e w1 ⟨rfl, hb1⟩
    have hB1 := hba.trans (hb1.mono hba.size)
    have hbx1 := hbx.below hb1
    obtain ⟨d0, d1, d2⟩ := hbx1.cells
    have hh1 := h.below hB1
    clear HOK HW hbx hb1 hba
    go_wp2_with (at_builtin; fail)
    go_region_held3 (fun w' => BoxR w.heap.size kind tx (.slice a len cap) w' ∧ w'.cell? ⟨w.heap.size, 0, none⟩ = some (.int .i64 kind) ∧ w'.cell? ⟨w.heap.size, 1, none⟩ = some (.int .i64 tx)) (first | (exact ⟨hbx1, d0, d1⟩) | (exact keepR hb6 (by assumption)) | (exact keepR hb5 (by assumption)) | (exact keepRa (by assumption)) | (go_keep)) (first | (go_at_call 56; have h9 := hb5; refine (spec_put g5 0 n5 cp5 ([] ++ numBytes kind) tx _ hO5.sl htf (by have := hO5.1; simp at this; omega)).mono ?_; rintro e w6 ⟨g6, n6, cp6, rfl, hO6, hb6⟩) | (go_at_call 56; refine (spec_put w1.heap.size 0 0 0 [] kind _ (sl_nil _ _) hkf (by omega)).mono ?_; rintro e w5 ⟨g5, n5, cp5, rfl, hO5, hb5⟩))
    all_goals
      obtain ⟨hbx6, _, _⟩ : BoxR w.heap.size kind tx (.slice a len cap) w6 ∧ w6.cell? ⟨w.heap.size, 0, none⟩ = some (.int .i64 kind) ∧ w6.cell? ⟨w.heap.size, 1, none⟩ = some (.int .i64 tx) := by assumption
      have hB5 : Below w.heap.size w w5 := (by first | exact (hB1.drew.alloc hB1.size _).trans (hb5.mono (by simp; have := hB1.size; omega)) | exact ((hB1.alloc hB1.size _).drew).trans (hb5.mono (by simp; have := hB1.size; omega)))
      have hB6 : Below w.heap.size w w6 := hB5.trans (hb6.mono hB5.size)
      rw [List.nil_append] at hO6
      have hO6' := hO6.mono (base' := w.heap.size) hB5.size
      have hn6 := hO6.1
      have hh6 := h.below hB6
      obtain ⟨x0, x1, x2⟩ := hbx6.cells
      clear hb5 hb6 hO5 hO6 hB5 d0 d1 d2
      rcases HC.out with ⟨hk1, hopk⟩ | ⟨hk23, hl0⟩
      · have hkb : (kind == 1) = true := by rw [hk1]; rfl
        have HBO : Hid (bodyOf (kind, tx, l) = numBytes kind ++ numBytes tx ++ putOps l) := by show _ = _; unfold bodyOf; rw [if_pos hk1]
        obtain ⟨_, hl1, _⟩ := (opsOk_iff l).1 hopk
        obtain ⟨b, off, ha, _⟩ := hh6.2.2.2 (by have := hh6.1; omega)
        subst ha
        have HPO := Hid.mk' (spec_putOps b off len cap l w6 hh6 hks)
        clear hopk HC hl1 hk1
        go_wp2_with (at_builtin; fail)
        refine HPO.out.mono ?_
        rintro e w7 ⟨g7, n7, cp7, rfl, hO7, hb7⟩
        have hO67 := hO6'.below hb7
        have hB7 := hB6.trans (hb7.mono hB6.size)
        have hn7 := hO7.1
        have HSL := Hid.mk' (sl_cells hO7.sl)
        have hl2 : (byteVals (putOps l)).length = n7 * 1 := by rw [byteVals_length]; omega
        simp only [List.length_append] at hn6
        have hc3 : n6 + n7 ≤ maxLen := by unfold maxLen; omega
        have hc4 : (n6 + n7) * 1 ≤ 140737488355328 := by omega
        have hbw := hB7.size
        clear HPO hb7 hB6 hO6' hO7
        go_wp2_with (at_builtin; refine wpList_append_own _ rfl (.tmp 19) (.tmp 22) 22 rfl w.heap.size 5 i0 (.int .u8 0) 1 1 Tryd.underlying22 hi hz0 hz1 hz2 rfl (by decide) _ _ _ rfl hO67.2 ⟨g7, 0, none⟩ n7 cp7 (byteVals (putOps l)) rfl hl2 HSL.out (byteVals_oneCell _) hc3 hc4 hbw ?_)
        intro v8 wb hown8 hgrow8 hnn8
        have hnn' : ¬ v8 = .slice none 0 0 := by simpa using hnn8
        obtain ⟨gb, cpb, hv8, hOb⟩ := own_cat hO67.1 hn7 hnn' hown8
        subst hv8
        have hBb : Below w.heap.size w wb := hB7.grown hgrow8 hbw (fun j e => by simp [Value.ownBlock] at e; have := hO67.lt; omega)
        rw [← HBO.out] at hOb
        generalize hnbb : n6 + n7 = nb at *
        clear hown8 hgrow8 hnn8 hnn' HSL hO67 hB7 hnbb x0 x1 x2 HBO
        -- the body is there: its length ahead of it, its digest behind it
        have hnb := hOb.1
        have hbs := body_small (kind, tx, l)
        have HBD := Hid.mk' (sha.spec_digest gb 0 nb cpb (bodyOf (kind, tx, l)))
        have hbt : Below w.heap.size w (wb.alloc (.cells #[] 5)) := hBb.alloc hBb.size _
        have hsb : (wb.alloc (.cells #[] 5)).heap.size = wb.heap.size + 1 := by simp
        have HPN := Hid.mk' (spec_put wb.heap.size 0 0 0 [] (nb : Int) (wb.alloc (.cells #[] 5)) (sl_nil _ _) (WalkArith.wf_i64 (by omega)) (by omega))
        have hOba := hOb.below ((Below.refl _ _).alloc (Nat.le_refl _) (.cells #[] 5))
        have hglb := hOb.lt
        clear hOb
        go_wp2_with (at_builtin; fail)
        refine HPN.out.mono ?_
        rintro e w10 ⟨g10, n10, cp10, rfl, hO10, hb10⟩
        rw [List.nil_append] at hO10
        have hB10 := hbt.trans (hb10.mono hbt.size)
        have hg10 := hO10.lt
        have hO10' := hO10.mono (base' := w.heap.size) (by omega)
        have hn10 := hO10.1
        have hnn10 := numBytes_length (nb : Int)
        have hOb10 := hOba.below hb10
        have HSL := Hid.mk' (sl_cells hOb10.sl)
        have hl2 : (byteVals (bodyOf (kind, tx, l))).length = nb * 1 := by rw [byteVals_length]; omega
        have hc3 : n10 + nb ≤ maxLen := by unfold maxLen; omega
        have hc4 : (n10 + nb) * 1 ≤ 140737488355328 := by omega
        have hbw := hB10.size
        clear HPN hb10 hO10 hOba hbt
        go_wp2_with (at_builtin; refine wpList_append_own _ rfl (.tmp 27) (.tmp 28) 22 rfl w.heap.size 5 i0 (.int .u8 0) 1 1 Tryd.underlying22 hi hz0 hz1 hz2 rfl (by decide) _ _ _ rfl hO10'.2 ⟨gb, 0, none⟩ nb cpb (byteVals (bodyOf (kind, tx, l))) rfl hl2 HSL.out (byteVals_oneCell _) hc3 hc4 hbw ?_)
        intro v11 w11 hown11 hgrow11 hnn11
        have hnn' : ¬ v11 = .slice none 0 0 := by simpa using hnn11
        obtain ⟨g11, cp11, hv11, hO11⟩ := own_cat hO10'.1 hnb hnn' hown11
        subst hv11
        have hgr : w10.grownBy w11 (some g10) := hgrow11
        have hB11 : Below w.heap.size w w11 := hB10.grown hgr hbw (fun j e => by cases e; omega)
        have hOb11 := hOb10.grown hgr (by simp; omega)
        have HD := Hid.mk' (HBD.out w11 hOb11.sl (by omega))
        have hcs : 4 ≤ (⟨(sha.digest (bodyOf (kind, tx, l))).toArray⟩ : ByteArray).size := by show 4 ≤ (sha.digest _).toArray.size; simp [sha.digest_length]
        clear HSL HBD hown11 hgrow11 hnn11 hnn' hOb10 hO10' hgr hB10
        go_wp2_with (at_builtin; fail)
        refine HD.out.mono ?_
        rintro e w12 ⟨rfl, hb12⟩
        have hO12 := hO11.below hb12
        have hB12 := hB11.trans (hb12.mono hB11.size)
        have hbw12 := hB12.size
        clear HD hb12 hO11 hB11 hOb11
        generalize hDD : (⟨(sha.digest (bodyOf (kind, tx, l))).toArray⟩ : ByteArray) = D at *
        have hDs : (4 : Int) ≤ (D.size : Int) := by omega
        have HDD := Hid.mk' hDD
        clear hDD
        have hxs : (D.extract 0 4).size = 4 := by simp [ByteArray.size_extract]; omega
        have HXC : Hid ((D.extract 0 4).data.toList = sum4 (bodyOf (kind, tx, l))) := by show _ = _; rw [← HDD.out]; exact digest_cut _
        have hc5 : n10 + nb + (D.extract 0 4).size ≤ maxLen := by unfold maxLen; omega
        have hc6 : n10 + nb + (D.extract 0 4).size ≤ 140737488355328 := by omega
        go_wp2_with (at_builtin; refine Lib.wpList_append_own_string _ rfl (.tmp 30) (.tmp 33) 22 9 rfl w.heap.size 5 i0 Tryd.underlying22 Tryd.underlying9 hi hz0 hz1 hz2 _ _ _ rfl hO12.2 (D.extract 0 4) rfl hc5 hc6 hbw12 ?_)
        intro v13 w13 hown13 hgrow13 hnn13
        have hnn13' : ¬ v13 = .slice none 0 0 := by simpa using hnn13
        rw [strCells_eq, HXC.out] at hown13
        obtain ⟨g13, cp13, hv13, hO13⟩ := own_app (m := 4) (ns := sum4 (bodyOf (kind, tx, l))) hO12.1 (sum4_length _) rfl hnn13' hown13
        subst hv13
        have hB13 : Below w.heap.size w w13 := hB12.grown hgrow13 hbw12 (fun j e => by simp [Value.ownBlock] at e; have := hO12.lt; omega)
        have HO13 : Hid (Own w13 w.heap.size g13 (n10 + nb + 4) cp13 (putRec (kind, tx, l))) := by
          show Own _ _ _ _ _ _
          rw [HP.out, recBytes, hnb]
          exact hO13
        clear hown13 hgrow13 hnn13 hnn13' hO13 hO12 hB12
        go_wp2_with (at_builtin; fail)
        go_ret
        exact ⟨_, _, _, rfl, HO13.out, hB13⟩
      · have hkb : (kind == 1) = false := beq_eq_false_iff_ne.2 (by omega)
        have HBO : Hid (bodyOf (kind, tx, l) = numBytes kind ++ numBytes tx) := by show _ = _; unfold bodyOf; rw [if_neg (by simp only []; omega), List.append_nil]
        rw [← HBO.out] at hO6'
        have hOb := hO6'
        have hBb := hB6
        generalize g6 = gb at *
        generalize n6 = nb at *
        generalize cp6 = cpb at *
        generalize w6 = wb at *
        clear hO6' hB6 x1 x2 HBO hk23 hl0 HC hn6
        -- the body is there: its length ahead of it, its digest behind it
        have hnb := hOb.1
        have hbs := body_small (kind, tx, l)
        have HBD := Hid.mk' (sha.spec_digest gb 0 nb cpb (bodyOf (kind, tx, l)))
        have hbt : Below w.heap.size w (wb.alloc (.cells #[] 5)) := hBb.alloc hBb.size _
        have hsb : (wb.alloc (.cells #[] 5)).heap.size = wb.heap.size + 1 := by simp
        have HPN := Hid.mk' (spec_put wb.heap.size 0 0 0 [] (nb : Int) (wb.alloc (.cells #[] 5)) (sl_nil _ _) (WalkArith.wf_i64 (by omega)) (by omega))
        have hOba := hOb.below ((Below.refl _ _).alloc (Nat.le_refl _) (.cells #[] 5))
        have hglb := hOb.lt
        clear hOb
        go_wp2_with (at_builtin; fail)
        refine HPN.out.mono ?_
        rintro e w10 ⟨g10, n10, cp10, rfl, hO10, hb10⟩
        rw [List.nil_append] at hO10
        have hB10 := hbt.trans (hb10.mono hbt.size)
        have hg10 := hO10.lt
        have hO10' := hO10.mono (base' := w.heap.size) (by omega)
        have hn10 := hO10.1
        have hnn10 := numBytes_length (nb : Int)
        have hOb10 := hOba.below hb10
        have HSL := Hid.mk' (sl_cells hOb10.sl)
        have hl2 : (byteVals (bodyOf (kind, tx, l))).length = nb * 1 := by rw [byteVals_length]; omega
        have hc3 : n10 + nb ≤ maxLen := by unfold maxLen; omega
        have hc4 : (n10 + nb) * 1 ≤ 140737488355328 := by omega
        have hbw := hB10.size
        clear HPN hb10 hO10 hOba hbt
        go_wp2_with (at_builtin; refine wpList_append_own _ rfl (.tmp 27) (.tmp 28) 22 rfl w.heap.size 5 i0 (.int .u8 0) 1 1 Tryd.underlying22 hi hz0 hz1 hz2 rfl (by decide) _ _ _ rfl hO10'.2 ⟨gb, 0, none⟩ nb cpb (byteVals (bodyOf (kind, tx, l))) rfl hl2 HSL.out (byteVals_oneCell _) hc3 hc4 hbw ?_)
        intro v11 w11 hown11 hgrow11 hnn11
        have hnn' : ¬ v11 = .slice none 0 0 := by simpa using hnn11
        obtain ⟨g11, cp11, hv11, hO11⟩ := own_cat hO10'.1 hnb hnn' hown11
        subst hv11
        have hgr : w10.grownBy w11 (some g10) := hgrow11
        have hB11 : Below w.heap.size w w11 := hB10.grown hgr hbw (fun j e => by cases e; omega)
        have hOb11 := hOb10.grown hgr (by simp; omega)
        have HD := Hid.mk' (HBD.out w11 hOb11.sl (by omega))
        have hcs : 4 ≤ (⟨(sha.digest (bodyOf (kind, tx, l))).toArray⟩ : ByteArray).size := by show 4 ≤ (sha.digest _).toArray.size; simp [sha.digest_length]
        clear HSL HBD hown11 hgrow11 hnn11 hnn' hOb10 hO10' hgr hB10
        go_wp2_with (at_builtin; fail)
        refine HD.out.mono ?_
        rintro e w12 ⟨rfl, hb12⟩
        have hO12 := hO11.below hb12
        have hB12 := hB11.trans (hb12.mono hB11.size)
        have hbw12 := hB12.size
        clear HD hb12 hO11 hB11 hOb11
        generalize hDD : (⟨(sha.digest (bodyOf (kind, tx, l))).toArray⟩ : ByteArray) = D at *
        have hDs : (4 : Int) ≤ (D.size : Int) := by omega
        have HDD := Hid.mk' hDD
        clear hDD
        have hxs : (D.extract 0 4).size = 4 := by simp [ByteArray.size_extract]; omega
        have HXC : Hid ((D.extract 0 4).data.toList = sum4 (bodyOf (kind, tx, l))) := by show _ = _; rw [← HDD.out]; exact digest_cut _
        have hc5 : n10 + nb + (D.extract 0 4).size ≤ maxLen := by unfold maxLen; omega
        have hc6 : n10 + nb + (D.extract 0 4).size ≤ 140737488355328 := by omega
        go_wp2_with (at_builtin; refine Lib.wpList_append_own_string _ rfl (.tmp 30) (.tmp 33) 22 9 rfl w.heap.size 5 i0 Tryd.underlying22 Tryd.underlying9 hi hz0 hz1 hz2 _ _ _ rfl hO12.2 (D.extract 0 4) rfl hc5 hc6 hbw12 ?_)
        intro v13 w13 hown13 hgrow13 hnn13
        have hnn13' : ¬ v13 = .slice none 0 0 := by simpa using hnn13
        rw [strCells_eq, HXC.out] at hown13
        obtain ⟨g13, cp13, hv13, hO13⟩ := own_app (m := 4) (ns := sum4 (bodyOf (kind, tx, l))) hO12.1 (sum4_length _) rfl hnn13' hown13
        subst hv13
        have hB13 : Below w.heap.size w w13 := hB12.grown hgrow13 hbw12 (fun j e => by simp [Value.ownBlock] at e; have := hO12.lt; omega)
        have HO13 : Hid (Own w13 w.heap.size g13 (n10 + nb + 4) cp13 (putRec (kind, tx, l))) := by
          show Own _ _ _ _ _ _
          rw [HP.out, recBytes, hnb]
          exact hO13
        clear hown13 hgrow13 hnn13 hnn13' hO13 hO12 hB12
        go_wp2_with (at_builtin; fail)
        go_ret
        exact ⟨_, _, _, rfl, HO13.out, hB13⟩
end Go.Proofs.YtooiinicnkhlbaaDoor.recs

namespace Go.Proofs.YtooiinicnkhlbaaDoor.ords
open Go Go.RowKit Go.Proofs.YtooiinicnkhlbaaDoor.base Go.Proofs.YtooiinicnkhlbaaDoor.pairs Go.Proofs.YtooiinicnkhlbaaDoor.putnum Go.Proofs.YtooiinicnkhlbaaDoor.puttext Go.Proofs.YtooiinicnkhlbaaDoor.getnum Go.Proofs.YtooiinicnkhlbaaDoor.gettext
set_option linter.unusedVariables false
set_option linter.unusedSimpArgs false

/-- an order in a block of its own -/
def BoxO (X : Nat) (p : Od) (w : World) : Prop := w.heap[X]? = some (.cells #[.int .i64 p.1, .string p.2.1, .string p.2.2] 85 (0, 0))
theorem boxO_new (w : World) (p : Od) : BoxO w.heap.size p (w.alloc (.cells #[.int .i64 p.1, .string p.2.1, .string p.2.2] 85)) := heap_alloc_new w _
theorem BoxO.cells {X : Nat} {p : Od} {w : World} (h : BoxO X p w) : w.cell? ⟨X, 0, none⟩ = some (.int .i64 p.1) ∧ w.cell? ⟨X, 1, none⟩ = some (.string p.2.1) ∧ w.cell? ⟨X, 2, none⟩ = some (.string p.2.2) := by
  unfold BoxO at h
  simp [World.cell?, h]
theorem BoxO.lt {X : Nat} {p : Od} {w : World} (h : BoxO X p w) : X < w.heap.size := (Array.getElem?_eq_some_iff.1 h).1
theorem BoxO.keep {X : Nat} {p : Od} {w w' : World} (h : BoxO X p w) (hk : Keeps w w') : BoxO X p w' := by
  have h' := h
  unfold BoxO at h ⊢
  rw [hk.2 X h'.lt (fun cur e => by rw [h] at e; simp at e), h]
theorem BoxO.alloc {X : Nat} {p : Od} {w : World} (h : BoxO X p w) (o : Obj) : BoxO X p (w.alloc o) := by
  have h' := h.lt
  unfold BoxO at h ⊢
  rw [(World.grownBy_alloc w o none).block X h' (by simp), h]
def HoldO (X : Nat) (p : Od) (w' : World) : Prop := BoxO X p w' ∧ w'.cell? ⟨X, 0, none⟩ = some (.int .i64 p.1) ∧ w'.cell? ⟨X, 1, none⟩ = some (.string p.2.1) ∧ w'.cell? ⟨X, 2, none⟩ = some (.string p.2.2)
theorem keepO {X : Nat} {p : Od} {w w' : World} (hk : Keeps w w') (h : BoxO X p w ∧ w.cell? ⟨X, 0, none⟩ = some (.int .i64 p.1) ∧ w.cell? ⟨X, 1, none⟩ = some (.string p.2.1) ∧ w.cell? ⟨X, 2, none⟩ = some (.string p.2.2)) :
    BoxO X p w' ∧ w'.cell? ⟨X, 0, none⟩ = some (.int .i64 p.1) ∧ w'.cell? ⟨X, 1, none⟩ = some (.string p.2.1) ∧ w'.cell? ⟨X, 2, none⟩ = some (.string p.2.2) :=
  ⟨h.1.keep hk, (h.1.keep hk).cells⟩
theorem keepOa {X : Nat} {p : Od} {w : World} {o : Obj} (h : BoxO X p w ∧ w.cell? ⟨X, 0, none⟩ = some (.int .i64 p.1) ∧ w.cell? ⟨X, 1, none⟩ = some (.string p.2.1) ∧ w.cell? ⟨X, 2, none⟩ = some (.string p.2.2)) :
    BoxO X p (w.alloc o) ∧ (w.alloc o).cell? ⟨X, 0, none⟩ = some (.int .i64 p.1) ∧ (w.alloc o).cell? ⟨X, 1, none⟩ = some (.string p.2.1) ∧ (w.alloc o).cell? ⟨X, 2, none⟩ = some (.string p.2.2) :=
  ⟨h.1.alloc o, (h.1.alloc o).cells⟩
/-- two strings in a block of their own -/
def TwoS (X : Nat) (k v : ByteArray) (w : World) : Prop := w.heap[X]? = some (.cells #[.string k, .string v] 9 (0, 0))
theorem twoS_new (w : World) (k v : ByteArray) : TwoS w.heap.size k v (w.alloc (.cells #[.string k, .string v] 9)) := heap_alloc_new w _
theorem TwoS.keep {X : Nat} {k v : ByteArray} {w w' : World} (h : TwoS X k v w) (hk : Keeps w w') : TwoS X k v w' := by
  unfold TwoS at h ⊢
  rw [hk.2 X (Array.getElem?_eq_some_iff.1 h).1 (fun cur e => by rw [h] at e; simp at e), h]
theorem TwoS.sl {X : Nat} {k v : ByteArray} {w : World} (h : TwoS X k v w) (hk : k.size ≤ maxLen) (hv : v.size ≤ maxLen) : SlS w (some ⟨X, 0, none⟩) 2 [k, v] := by
  refine ⟨rfl, by unfold maxLen; omega, ?_, fun _ => ⟨X, 0, rfl, ?_⟩⟩
  · intro s hs
    simp at hs
    rcases hs with rfl | rfl
    · exact hk
    · exact hv
  · intro i hi
    unfold TwoS at h
    match i, hi with
    | 0, _ => simp [World.cell?, h]
    | 1, _ => simp [World.cell?, h]
theorem TwoS.blk {X : Nat} {k v : ByteArray} {w : World} (h : TwoS X k v w) : ∀ b off, (some ⟨X, 0, none⟩ : Option Addr) = some ⟨b, off, none⟩ → ∃ cur mk, w.heap[b]? = some (.cells cur 9 mk) := by
  intro b off e
  cases e
  exact ⟨_, _, h⟩
theorem own_alloc {w : World} {base g n cap : Nat} {bs : List UInt8} (h : Own w base g n cap bs) (o : Obj) : Own (w.alloc o) base g n cap bs := h.below ((Below.refl _ _).alloc (Nat.le_refl _) _)
theorem texts_two (k v : ByteArray) : textsBytes [k, v] = textBytes k ++ textBytes v := by simp [textsBytes]

set_option maxRecDepth 100000 in
set_option maxHeartbeats 4000000 in
theorem impl_putOps (b off len cap : Nat) (l : List Od) (w : World) (h : SlO w (some ⟨b, off, none⟩) len l) (hks : ∀ p ∈ l, p.2.1.size ≤ 1099511627776) :
    Calls Tryd.prog 64 #[.slice (some ⟨b, off, none⟩) len cap] w fun e w' =>
      ∃ g' n' cap', e = .returned (.slice (some ⟨g', 0, none⟩) n' cap') ∧ Own w' w.heap.size g' n' cap' (putOps l) ∧ Below w.heap.size w w' := by
  have HOK := Hid.mk' (impl_opsOk b off len cap l w h hks)
  have hl := h.1
  subst hl
  cases hok : opsOk l
  · rw [hok] at HOK
    have HP : Hid (putOps l = []) := opsOk_put l hok
    clear hok
    go_enter Tryd.func64, Tryd.ntmps64
    go_wp2_with fail
    refine HOK.out.mono ?_
    rintro e w1 ⟨rfl, hb1⟩
    have hO1 := own_made w1 w.heap.size hb1.size
    go_wp2_with fail
    go_ret
    exact ⟨_, _, _, rfl, by rw [HP.out]; exact hO1, hb1.alloc hb1.size _⟩
  · rw [hok] at HOK
    have HP : Hid (putOps l = numBytes (l.length : Int) ++ odsBytes l) := by show _ = _; unfold putOps; rw [if_pos hok]
    obtain ⟨⟨hall, _⟩, hl1, hl8⟩ := (opsOk_iff l).1 hok
    clear hok
    have hnb := numBytes_length (l.length : Int)
    go_enter Tryd.func64, Tryd.ntmps64
    go_wp2_with fail
    refine HOK.out.mono ?_
    rintro e w1 ⟨rfl, hb1⟩
    have hO1 := own_made w1 w.heap.size hb1.size
    have hb1' : Below w.heap.size w (w1.alloc (.cells #[] 5)) := hb1.alloc hb1.size _
    have HPN := Hid.mk' (addNum w1.heap.size 0 0 w.heap.size [] (l.length : Int) _ hO1 hb1'.size (WalkArith.wf_i64 (by omega)) (by omega))
    clear HOK hO1
    go_wp2_with fail
    refine HPN.out.mono ?_
    rintro e w2 ⟨g2, n2, cp2, rfl, hO2, hb2, hk2⟩
    have hB2 : Below w.heap.size w w2 := hb1'.trans hb2
    clear HPN hb2 hb1 hb1' hk2
    have hn2 := hO2.1
    go_wp2_with fail
    go_loopw [3, 16] (fun v i wr => ∃ (k g n cp : Nat), k ≤ l.length ∧ n ≤ 5 + 47 * k ∧ i = .int .i64 (k : Int) ∧ v = .slice (some ⟨g, 0, none⟩) n cp ∧ Own wr w.heap.size g n cp (numBytes (l.length : Int) ++ odsBytes (l.take k)) ∧ Below w.heap.size w wr) (fun _ i _ => l.length - (intOf i).toNat)
    case atStart => exact ⟨0, g2, n2, cp2, Nat.zero_le _, by simp at hn2; omega, rfl, rfl, by simpa [odsBytes] using hO2, hB2⟩
    case round =>
      clear hO2 hB2 hn2
      obtain ⟨k, g, n, cp, hk, hn, rfl, rfl, hO, hB⟩ := hrel
      by_cases hlt : k < l.length
      · obtain ⟨c0, c1, c2⟩ := (h.below hB).cells k hlt
        have hki : (k : Int) < (l.length : Int) := by omega
        have hpk := hall _ (List.getElem_mem hlt)
        have HT : Hid (numBytes (l.length : Int) ++ odsBytes (l.take (k + 1)) = (numBytes (l.length : Int) ++ odsBytes (l.take k)) ++ odBytes l[k]) := by show _ = _; rw [odsBytes_take l k hlt, List.append_assoc]
        have hol := odBytes_length hpk
        obtain ⟨hz, _, hkey, hval⟩ := (odOk_iff _).1 hpk
        have hks' := keyOk_size hkey
        have hzf : (Lit.int .i64 l[k].1).wf = true := WalkArith.wf_i64 (by omega)
        generalize l[k] = p at *
        generalize numBytes (l.length : Int) ++ odsBytes (l.take k) = B at *
        have hnz := numBytes_length p.1
        have htk := textBytes_length p.2.1
        have htv := textBytes_length p.2.2
        have hbx := boxO_new wr p
        have hBA : Below w.heap.size w (wr.alloc (.cells #[.int .i64 p.1, .string p.2.1, .string p.2.2] 85)) := hB.alloc hB.size _
        have hOA := own_alloc hO (.cells #[.int .i64 p.1, .string p.2.1, .string p.2.2] 85)
        have hbw := hBA.size
        go_wp2_with fail
        generalize hX : wr.heap.size = X at *
        generalize hW : wr.alloc (.cells #[.int .i64 p.1, .string p.2.1, .string p.2.2] 85) = W at *
        obtain ⟨d0, d1, d2⟩ := hbx.cells
        have hOB : ∀ o, Own (W.drew.alloc o) w.heap.size g n cp B := fun o => own_alloc (show Own W.drew w.heap.size g n cp B from hOA) o
        have hOC : Own W.drew w.heap.size g n cp B := hOA
        have hnB := hOA.1
        have htt : (textsBytes [p.2.1, p.2.2]).length ≤ 42 := by rw [texts_two, List.length_append]; omega
        have HSS : Hid (∀ s ∈ [p.2.1, p.2.2], s.size ≤ 549755813888) := by
          intro s hs
          simp at hs
          rcases hs with rfl | rfl <;> omega
        have hkm : p.2.1.size ≤ maxLen := by unfold maxLen; omega
        have hvm : p.2.2.size ≤ maxLen := by unfold maxLen; omega
        clear hW hO hB c0 c1 c2 hX
        go_region_held3 (fun w' => BoxO X p w' ∧ w'.cell? ⟨X, 0, none⟩ = some (.int .i64 p.1) ∧ w'.cell? ⟨X, 1, none⟩ = some (.string p.2.1) ∧ w'.cell? ⟨X, 2, none⟩ = some (.string p.2.2)) (first | (exact ⟨hbx, d0, d1, d2⟩) | (exact keepO hk6 (by assumption)) | (exact keepO hk5 (by assumption)) | (exact keepOa (by assumption)) | (go_keep)) (first | (go_at_call 89; have h9 : Keeps W.drew w5 := (by with_reducible exact hk5); refine (puttext.addTexts g5 n5 cp5 w.heap.size (B ++ numBytes p.1) (some ⟨w5.heap.size, 0, none⟩) 2 2 [p.2.1, p.2.2] _ (own_alloc hO5 _) (le_alloc _ _ (Nat.le_trans hbw h9.1)) ((twoS_new w5 p.2.1 p.2.2).sl hkm hvm) (twoS_new w5 p.2.1 p.2.2).blk (by have := hO5.1; simp only [List.length_append] at this; omega) HSS.out).mono ?_; rintro e w6 ⟨g6, n6, cp6, rfl, hO6, hb6, hk6⟩) | (go_at_call 89; have h9 : Keeps (W.alloc (.cells #[.string p.2.1, .string p.2.2] 9)).drew w5 := (by with_reducible exact hk5); have h8 : TwoS W.heap.size p.2.1 p.2.2 w5 := TwoS.keep (w := (W.alloc (.cells #[.string p.2.1, .string p.2.2] 9)).drew) (twoS_new W p.2.1 p.2.2) h9; refine (puttext.addTexts g5 n5 cp5 w.heap.size (B ++ numBytes p.1) (some ⟨W.heap.size, 0, none⟩) 2 2 [p.2.1, p.2.2] _ hO5 (Nat.le_trans (le_alloc _ _ hbw) h9.1) (h8.sl hkm hvm) h8.blk (by have := hO5.1; simp only [List.length_append] at this; omega) HSS.out).mono ?_; rintro e w6 ⟨g6, n6, cp6, rfl, hO6, hb6, hk6⟩) | (go_at_call 63; refine (addNum g n cp w.heap.size B p.1 _ (by first | exact hOC | exact hOB _) (by first | exact hbw | exact le_alloc _ _ hbw) hzf (by omega)).mono ?_; rintro e w5 ⟨g5, n5, cp5, rfl, hO5, hb5, hk5⟩))
        all_goals
          have hB5 : Below w.heap.size w w5 := (by first | exact hBA.drew.trans hb5 | exact ((hBA.alloc hBA.size _).drew).trans hb5)
          have hB6 : Below w.heap.size w w6 := (by first | exact hB5.trans hb6 | exact (hB5.alloc hB5.size _).trans hb6)
          have hn6 : n6 ≤ 5 + 47 * (k + 1) := by
            have e1 := hO6.1
            have e2 := hO5.1
            rw [texts_two] at e1
            simp [odBytes] at e1 e2 hol
            omega
          have e : B ++ numBytes p.1 ++ textsBytes [p.2.1, p.2.2] = B ++ odBytes p := by rw [texts_two]; simp [odBytes]
          rw [e] at hO6
          have HO6 := Hid.mk' hO6
          clear hb5 hb6 hO5 hO6 hOA hOB hOC hBA hB5 d0 d1 d2 e hk5 hk6
          go_wp2_with fail
          go_roundw
          case rel => exact ⟨k + 1, g6, n6, cp6, by omega, hn6, by go_num, rfl, by rw [HT.out]; exact HO6.out, hB6⟩
          case measure => simp [intOf]; omega
      · have HE : Hid (l.take k = l) := List.take_of_length_le (by omega)
        go_wp2_with fail
        go_ret
        rw [HE.out, ← HP.out] at hO
        exact ⟨g, n, cp, rfl, hO, hB⟩
end Go.Proofs.YtooiinicnkhlbaaDoor.ords

namespace Go.Proofs.YtooiinicnkhlbaaDoor.putnum
open Go Go.RowKit Go.Proofs.YtooiinicnkhlbaaDoor.base
set_option linter.unusedVariables false
set_option linter.unusedSimpArgs false

theorem grown_on {a b c : World} {g h : Nat} (h1 : a.grownBy b (some g)) (h2 : b.grownBy c (some h)) (hh : h = g ∨ a.heap.size ≤ h) : a.grownBy c (some g) :=
  ⟨h2.os.trans h1.os, h2.tape.trans h1.tape, h2.output.trans h1.output, Nat.le_trans h1.size h2.size, fun i hi hr => (h2.block i (Nat.lt_of_lt_of_le hi h1.size) (by intro e; cases e; rcases hh with rfl | hh; exact hr rfl; omega)).trans (h1.block i hi hr)⟩
theorem own_lies {w' : World} {base g n m cap : Nat} {bs ns : List UInt8} {news : List Value} (hl : bs.length = n) (hln : ns.length = m) (he : news = byteVals ns) (h : w'.ownsRow base 5 1 (.slice (some ⟨g, 0, none⟩) (n + m) cap) (n + m) (byteVals bs ++ news)) : Own w' base g (n + m) cap (bs ++ ns) := by
  subst he
  refine ⟨by simp [hl, hln], ?_⟩
  rw [byteVals_append]; exact h
set_option maxRecDepth 100000 in
set_option maxHeartbeats 1000000 in
theorem addNumG (g n cap base : Nat) (bs : List UInt8) (N : Int) (w : World) (h : Own w base g n cap bs) (hb : base ≤ w.heap.size) (hN : (Lit.int .i64 N).wf = true) (hsz : n ≤ 1099511627776) :
    Calls Tryd.prog 63 #[.slice (some ⟨g, 0, none⟩) n cap, .int .i64 N] w fun e w' =>
      ∃ g' n' cap', e = .returned (.slice (some ⟨g', 0, none⟩) n' cap') ∧ Own w' base g' n' cap' (bs ++ numBytes N) ∧ Below base w w' ∧ w.grownBy w' (some g) ∧ (g' = g ∨ w.heap.size ≤ g') := by
  have hNb : -9223372036854775808 ≤ N ∧ N ≤ 9223372036854775807 := by simpa [Lit.wf, IntKind.min, IntKind.max, IntKind.signed, IntKind.bits] using hN
  obtain ⟨i0, hi, hz0, hz1, hz2⟩ := info_parts info8
  have hcases : N < 0 ∨ 1000000000 < N ∨ (0 ≤ N ∧ N ≤ 1000000000) := by omega
  rcases hcases with hc | hc | ⟨hc, hc'⟩
  all_goals
    go_enter Tryd.func63, Tryd.ntmps63
    go_wp2
    go_loopw [0, 1] (fun v nv wr => ∃ (f m : Nat) (done : List UInt8) (g' n' cap' : Nat), v = .slice (some ⟨g', 0, none⟩) n' cap' ∧ nv = .int .i64 (m : Int) ∧ m ≤ 1000000000 ∧ m < 128 ^ (f + 1) ∧ f ≤ 4 ∧ Own wr base g' n' cap' (bs ++ done) ∧ done.length + f = 4 ∧ (Below base w wr ∧ w.grownBy wr (some g) ∧ (g' = g ∨ w.heap.size ≤ g')) ∧ done ++ groups f m = numBytes N) (fun _ nv _ => (intOf nv).toNat)
    case atStart =>
      exact ⟨4, clamp N, [], g, n, cap, rfl, val_int (by unfold clamp; split <;> (try split) <;> omega), clamp_le N, by have := clamp_le N; omega, by omega, by rw [List.append_nil]; exact h, rfl, ⟨Below.refl _ _, ⟨rfl, rfl, rfl, Nat.le_refl _, fun _ _ _ => rfl⟩, .inl rfl⟩, rfl⟩
    case round =>
      obtain ⟨f, m, done, g', n', cap', rfl, rfl, hm9, hm, hf, hO, hdl, ⟨hB, hK, hgl⟩, hgr⟩ := hrel
      have HG := Hid.mk' hgr
      have hlen := hO.1
      simp only [List.length_append] at hlen
      have hbl := h.1
      have HM := Hid.mk' hm
      have HL := Hid.mk' hlen
      have hn' : n' ≤ 1099511627781 := by omega
      have hBs := hB.size
      have hbw : base ≤ wr.heap.size := by omega
      have hc3 : n' + 1 ≤ maxLen := by unfold maxLen; omega
      have hc4 : (n' + 1) * 1 ≤ 140737488355328 := by omega
      have HD := Hid.mk' hdl
      clear hgr hm hlen hbl hdl
      by_cases hge : 128 ≤ m
      · obtain ⟨f', rfl⟩ : ∃ f', f = f' + 1 := by
          cases f with
          | zero => exact absurd HM.out (by omega)
          | succ f' => exact ⟨f', rfl⟩
        go_wp2_with (at_builtin; refine wpList_append_lies _ rfl _ _ 22 rfl base 5 i0 (.int .u8 0) 1 1 Tryd.underlying22 hi hz0 hz1 hz2 rfl (by decide) _ _ _ rfl (hO.2.alloc _) ⟨wr.heap.size, 0, none⟩ 1 1 [_] rfl rfl (cell_one_new _ _ _) (one_oneCell _ _) (by decide) hc3 hc4 (le_alloc _ _ hbw) _ rfl ?_)
        intro g2 cap2 w1 hown hgrow hat hlt2
        have hO2 := own_lies (m := 1) (ns := [UInt8.ofNat (128 + m % 128)]) hO.1 rfl (one_val (byte_hi m)) hown
        have hB2 : Below base w w1 := (hB.alloc hbw _).grown hgrow (le_alloc _ _ hbw) (fun k e => by simp [Value.ownBlock] at e; have := hO.lt; omega)
        have hK2 : w.grownBy w1 (some g) := grown_on (grownBy_trans hK (World.grownBy_alloc wr _ _)) hgrow hgl
        have hgl2 : g2 = g ∨ w.heap.size ≤ g2 := by
          rcases hat with e | e
          · have e2 : g' = g2 := by simpa [Value.ownBlock] using e
            rw [← e2]; exact hgl
          · right; omega
        have HO2 := Hid.mk' hO2
        clear hown hgrow hO hO2 hB hat hlt2 hK hgl
        go_wp2
        go_roundw
        case rel =>
          refine ⟨f', m / 128, done ++ [UInt8.ofNat (128 + m % 128)], g2, n' + 1, cap2, rfl, by go_num, by omega, ?_, by omega, by rw [← List.append_assoc]; exact HO2.out, ?_, ⟨hB2, hK2, hgl2⟩, ?_⟩
          · have := HM.out; rw [Nat.pow_succ] at this; exact Nat.div_lt_of_lt_mul (by omega)
          · have := HD.out; simp; omega
          · rw [List.append_assoc, List.singleton_append, ← groups_high f' m hge]; exact HG.out
        case measure => simp [intOf]; omega
      · go_wp2_with (at_builtin; refine wpList_append_lies _ rfl _ _ 22 rfl base 5 i0 (.int .u8 0) 1 1 Tryd.underlying22 hi hz0 hz1 hz2 rfl (by decide) _ _ _ rfl (hO.2.alloc _) ⟨wr.heap.size, 0, none⟩ 1 1 [_] rfl rfl (cell_one_new _ _ _) (one_oneCell _ _) (by decide) hc3 hc4 (le_alloc _ _ hbw) _ rfl ?_)
        intro g2 cap2 w1 hown hgrow hat hlt2
        have hO2 := own_lies (m := 1) (ns := [UInt8.ofNat m]) hO.1 rfl (one_val (byte_lo m (by omega)).symm) hown
        have hB2 : Below base w w1 := (hB.alloc hbw _).grown hgrow (le_alloc _ _ hbw) (fun k e => by simp [Value.ownBlock] at e; have := hO.lt; omega)
        have hK2 : w.grownBy w1 (some g) := grown_on (grownBy_trans hK (World.grownBy_alloc wr _ _)) hgrow hgl
        have hgl2 : g2 = g ∨ w.heap.size ≤ g2 := by
          rcases hat with e | e
          · have e2 : g' = g2 := by simpa [Value.ownBlock] using e
            rw [← e2]; exact hgl
          · right; omega
        have HO2 := Hid.mk' hO2
        clear hown hgrow hO hO2 hB hat hlt2 hK hgl
        go_wp2
        go_ret
        refine ⟨g2, _, cap2, rfl, ?_, hB2, hK2, hgl2⟩
        have hx := HO2.out
        rw [List.append_assoc, ← groups_low f m (by omega), HG.out] at hx
        exact hx
end Go.Proofs.YtooiinicnkhlbaaDoor.putnum

namespace Go.Proofs.YtooiinicnkhlbaaDoor.sha
open Go.RowKit Go.Proofs.YtooiinicnkhlbaaDoor.base Go.Proofs.YtooiinicnkhlbaaDoor.padmath
set_option linter.unusedVariables false
set_option linter.unusedSimpArgs false

theorem wraps_u64 (n : Int) (h₀ : 0 ≤ n) (h₁ : n < 2 ^ 64) : IntKind.u64.wrap n = n := by rw [IntKind.wrap_u64]; omega
theorem wraps_u32 (n : Int) (h₀ : 0 ≤ n) (h₁ : n < 2 ^ 32) : IntKind.u32.wrap n = n := by rw [IntKind.wrap_u32]; omega
theorem u64_mask5 (x : Int) (h₀ : 0 ≤ x) (h₁ : x < 18446744073709551616) : bits .and .u64 x 31 = x % 32 :=
  bits_mask .u64 64 (by decide) wraps_u64 5 (by decide) x h₀ (by omega)
theorem neg31 (n m : Nat) (hn : 1 ≤ n) (hm : m + n = 32) (hm1 : 1 ≤ m) : bits .and .u64 (IntKind.u64.wrap (-(n : Int))) 31 = (m : Int) := by
  have e : IntKind.u64.wrap (-(n : Int)) = 18446744073709551616 - (n : Int) := by rw [IntKind.wrap_u64]; omega
  rw [e, u64_mask5 _ (by omega) (by omega)]
  omega
theorem u32_or_nat (a b : Nat) (ha : a < 4294967296) (hb : b < 4294967296) : bits .or .u32 (a : Int) (b : Int) = ((a ||| b : Nat) : Int) :=
  (bits_nat .u32 32 (by decide) wraps_u32 a b (by omega) (by omega)).2
theorem u32_and_nat (a b : Nat) (ha : a < 4294967296) (hb : b < 4294967296) : bits .and .u32 (a : Int) (b : Int) = ((a &&& b : Nat) : Int) :=
  (bits_nat .u32 32 (by decide) wraps_u32 a b (by omega) (by omega)).1
theorem rot_val (x n m : Nat) (hx : x < 4294967296) (hm : m + n = 32) : bits .or .u32 ((x : Int) * 2 ^ m % 4294967296) ((x : Int) / 2 ^ n) = (rotr n x : Int) := by
  have e1 : (x : Int) / 2 ^ n = ((x / 2 ^ n : Nat) : Int) := by rw [Int.natCast_ediv, Int.natCast_pow]; rfl
  have e2 : (x : Int) * 2 ^ m % 4294967296 = ((x * 2 ^ m % 4294967296 : Nat) : Int) := by rw [Int.natCast_emod, Int.natCast_mul, Int.natCast_pow]; rfl
  rw [e1, e2, u32_or_nat _ _ (Nat.mod_lt _ (by omega)) (div32 _ hx), Nat.or_comm]
  unfold rotr
  rw [show 32 - n = m by omega]
set_option maxHeartbeats 400000 in
theorem impl_rot (x n : Nat) (w : World) (hx : x < 4294967296) (hn : 1 ≤ n) (hn2 : n ≤ 31) :
    Calls Tryd.prog 113 #[.int .u32 (x : Int), .int .i64 (-(n : Int))] w fun e w' => e = .returned (.int .u32 (rotr n x : Int)) ∧ w' = w := by
  obtain ⟨m, hm⟩ : ∃ m, m + n = 32 := ⟨32 - n, by omega⟩
  have hm1 : 1 ≤ m := by omega
  have hm2 : m ≤ 31 := by omega
  have hA := neg31 n m hn hm hm1
  have hS : (32 : Int) - (m : Int) = (n : Int) := by omega
  have HV := Hid.mk' (rot_val x n m hx hm)
  clear hm
  go_enter Tryd.func113, Tryd.ntmps113
  go_wp2
  go_ret
  exact ⟨ret_int HV.out, rfl⟩
theorem impl_rotI (x n : Nat) (N : Int) (w : World) (hN : Hid (N = -(n : Int))) (hx : x < 4294967296) (hn : 1 ≤ n) (hn2 : n ≤ 31) :
    Calls Tryd.prog 113 #[.int .u32 (x : Int), .int .i64 N] w fun e w' => e = .returned (.int .u32 (rotr n x : Int)) ∧ w' = w := by
  have e := hN.out
  subst e
  exact impl_rot x n w hx hn hn2
theorem u32_xor3 (a b c : Nat) (ha : a < 4294967296) (hb : b < 4294967296) (hc : c < 4294967296) : bits .xor .u32 (bits .xor .u32 (a : Int) (b : Int)) (c : Int) = ((a ^^^ b ^^^ c : Nat) : Int) := by
  rw [u32_xor_nat a b ha hb, u32_xor_nat _ _ (xor32 ha hb) hc]
theorem sz_val (x : Nat) (h : x < 4294967296) : bits .xor .u32 (bits .xor .u32 (rotr 7 x : Int) (rotr 18 x : Int)) ((x : Int) / 8) = (ssig0 x : Int) := by
  rw [show (x : Int) / 8 = ((x / 8 : Nat) : Int) by omega, u32_xor3 _ _ _ (rotr_lt _ _ h) (rotr_lt _ _ h) (div32 _ h)]; rfl
theorem so_val (x : Nat) (h : x < 4294967296) : bits .xor .u32 (bits .xor .u32 (rotr 17 x : Int) (rotr 19 x : Int)) ((x : Int) / 1024) = (ssig1 x : Int) := by
  rw [show (x : Int) / 1024 = ((x / 1024 : Nat) : Int) by omega, u32_xor3 _ _ _ (rotr_lt _ _ h) (rotr_lt _ _ h) (div32 _ h)]; rfl
set_option maxHeartbeats 400000 in
theorem impl_sig0 (x : Nat) (w : World) (hx : x < 4294967296) :
    Calls Tryd.prog 108 #[.int .u32 (x : Int)] w fun e w' => e = .returned (.int .u32 (ssig0 x : Int)) ∧ w' = w := by
  have HV := Hid.mk' (sz_val x hx)
  go_enter Tryd.func108, Tryd.ntmps108
  go_wp2_with fail
  refine (impl_rotI x 7 _ _ (by show _ = _; rfl) hx (by omega) (by omega)).mono ?_
  rintro e w1 ⟨rfl, hw1⟩
  subst hw1
  go_wp2_with fail
  refine (impl_rotI x 18 _ _ (by show _ = _; rfl) hx (by omega) (by omega)).mono ?_
  rintro e w1 ⟨rfl, hw1⟩
  subst hw1
  go_wp2_with fail
  go_ret
  exact ⟨ret_int HV.out, rfl⟩
set_option maxHeartbeats 400000 in
theorem impl_sig1 (x : Nat) (w : World) (hx : x < 4294967296) :
    Calls Tryd.prog 109 #[.int .u32 (x : Int)] w fun e w' => e = .returned (.int .u32 (ssig1 x : Int)) ∧ w' = w := by
  have HV := Hid.mk' (so_val x hx)
  go_enter Tryd.func109, Tryd.ntmps109
  go_wp2_with fail
  refine (impl_rotI x 17 _ _ (by show _ = _; rfl) hx (by omega) (by omega)).mono ?_
  rintro e w1 ⟨rfl, hw1⟩
  subst hw1
  go_wp2_with fail
  refine (impl_rotI x 19 _ _ (by show _ = _; rfl) hx (by omega) (by omega)).mono ?_
  rintro e w1 ⟨rfl, hw1⟩
  subst hw1
  go_wp2_with fail
  go_ret
  exact ⟨ret_int HV.out, rfl⟩
set_option maxHeartbeats 400000 in
theorem impl_turned (x i j k : Nat) (w : World) (hx : x < 4294967296) (hi : 1 ≤ i) (hi2 : i ≤ 31) (hj : 1 ≤ j) (hj2 : j ≤ 31) (hk : 1 ≤ k) (hk2 : k ≤ 31) :
    Calls Tryd.prog 110 #[.int .u32 (x : Int), .int .i64 (i : Int), .int .i64 (j : Int), .int .i64 (k : Int)] w fun e w' => e = .returned (.int .u32 ((rotr i x ^^^ rotr j x ^^^ rotr k x : Nat) : Int)) ∧ w' = w := by
  have HV := Hid.mk' (u32_xor3 _ _ _ (rotr_lt i x hx) (rotr_lt j x hx) (rotr_lt k x hx))
  go_enter Tryd.func110, Tryd.ntmps110
  go_wp2_with fail
  refine (impl_rotI x i _ _ (by show _ = _; rfl) hx (by omega) (by omega)).mono ?_
  rintro e w1 ⟨rfl, hw1⟩
  subst hw1
  go_wp2_with fail
  refine (impl_rotI x j _ _ (by show _ = _; rfl) hx (by omega) (by omega)).mono ?_
  rintro e w1 ⟨rfl, hw1⟩
  subst hw1
  go_wp2_with fail
  refine (impl_rotI x k _ _ (by show _ = _; rfl) hx (by omega) (by omega)).mono ?_
  rintro e w1 ⟨rfl, hw1⟩
  subst hw1
  go_wp2_with fail
  go_ret
  exact ⟨ret_int HV.out, rfl⟩
theorem impl_bsig1 (x : Nat) (w : World) (hx : x < 4294967296) :
    Calls Tryd.prog 110 #[.int .u32 (x : Int), .int .i64 6, .int .i64 11, .int .i64 25] w fun e w' => e = .returned (.int .u32 (bsig1 x : Int)) ∧ w' = w :=
  impl_turned x 6 11 25 w hx (by omega) (by omega) (by omega) (by omega) (by omega) (by omega)
theorem impl_bsig0 (x : Nat) (w : World) (hx : x < 4294967296) :
    Calls Tryd.prog 110 #[.int .u32 (x : Int), .int .i64 2, .int .i64 13, .int .i64 22] w fun e w' => e = .returned (.int .u32 (bsig0 x : Int)) ∧ w' = w :=
  impl_turned x 2 13 22 w hx (by omega) (by omega) (by omega) (by omega) (by omega) (by omega)

end Go.Proofs.YtooiinicnkhlbaaDoor.sha
