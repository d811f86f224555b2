/- The specification's statements: a word's order. append within the room that a make laid: small facts on worlds; no function of the program is named here. The program's keys and pairs: what is right. -/
import Derived.Test.YtefjbpkomphjdaaShab
import Derived.Test.YtefjbpkomphjdaaShaa
import Derived.OwnWalk
namespace Go.Proofs.Ytefjbpkomphjdaa.txts
open Go Go.RowKit Go.Proofs.Ytefjbpkomphjdaa.base Go.Proofs.Ytefjbpkomphjdaa.pairs Go.Proofs.Ytefjbpkomphjdaa.ords
set_option linter.unusedVariables false
set_option linter.unusedSimpArgs false

def BoxT (X : Nat) (p : Od) (w : World) : Prop := w.heap[X]? = some (.cells #[.int .i64 p.1, .string p.2.1, .string p.2.2] 53 (0, 0))
theorem boxT_new (w : World) (p : Od) : BoxT w.heap.size p (w.alloc (.cells #[.int .i64 p.1, .string p.2.1, .string p.2.2] 53)) := heap_alloc_new w _
section
variable {X : Nat} {p q : Od} {w w' : World}
theorem BoxT.cells (h : BoxT X p w) : w.cell? ⟨X, 0, none⟩ = some (.int .i64 p.1) ∧ w.cell? ⟨X, 1, none⟩ = some (.string p.2.1) ∧ w.cell? ⟨X, 2, none⟩ = some (.string p.2.2) := by
  unfold BoxT at h
  simp [World.cell?, h]
theorem BoxT.lt (h : BoxT X p w) : X < w.heap.size := (Array.getElem?_eq_some_iff.1 h).1
theorem BoxT.fz (h : BoxT X p w) (i : Nat) : w.frozen? ⟨X, i, none⟩ = false := by unfold BoxT at h; simp [World.frozen?, h]
theorem BoxT.below (h : BoxT X p w) (hb : Below w.heap.size w w') : BoxT X p w' := by
  have h' := h.lt
  unfold BoxT at h ⊢
  rw [hb.block X h', h]
theorem BoxT.grown {row : Option Nat} (h : BoxT X p w) (hg : w.grownBy w' row) (hne : some X ≠ row) : BoxT X p w' := by
  have h' := h.lt
  unfold BoxT at h ⊢
  rw [hg.block X h' hne, h]
theorem BoxT.set (h : BoxT X p w) (q : Od) : BoxT X q (((w.setCell ⟨X, 0, none⟩ (.int .i64 q.1)).setCell ⟨X, 1, none⟩ (.string q.2.1)).setCell ⟨X, 2, none⟩ (.string q.2.2)) ∧ w.grownBy (((w.setCell ⟨X, 0, none⟩ (.int .i64 q.1)).setCell ⟨X, 1, none⟩ (.string q.2.1)).setCell ⟨X, 2, none⟩ (.string q.2.2)) (some X) := by
  unfold BoxT at h
  obtain ⟨h1, g1⟩ := set_cur h 0 (.int .i64 q.1)
  obtain ⟨h2, g2⟩ := set_cur h1 1 (.string q.2.1)
  obtain ⟨h3, g3⟩ := set_cur h2 2 (.string q.2.2)
  refine ⟨?_, grownBy_trans (grownBy_trans g1 g2) g3⟩
  unfold BoxT
  rw [h3]
  simp
theorem BoxT.kind (h : BoxT X p w) (z : Int) : BoxT X (z, p.2) (w.setCell ⟨X, 0, none⟩ (.int .i64 z)) ∧ w.grownBy (w.setCell ⟨X, 0, none⟩ (.int .i64 z)) (some X) := by
  unfold BoxT at h
  obtain ⟨h1, g1⟩ := set_cur h 0 (.int .i64 z)
  refine ⟨?_, g1⟩
  unfold BoxT
  rw [h1]
  simp
end
theorem boxT_made (w : World) (p : Od) : BoxT w.heap.size p (w.alloc (.cells #[.int .i64 p.1, .string p.2.1, .string p.2.2] 53)).drew := (boxT_new w p).below (Below.refl _ _).drew
theorem boxT_kept {X : Nat} {p : Od} {w : World} (h : BoxT X p w) (o : Obj) : BoxT X p (w.alloc o).drew := h.below ((Below.refl _ _).alloc (Nat.le_refl _) _).drew
theorem boxT_kept2 {X : Nat} {p : Od} {w : World} (h : BoxT X p w) (o : Obj) : BoxT X p (w.alloc o).drew.drew := h.below ((Below.refl _ _).alloc (Nat.le_refl _) _).drew.drew
def opAgg (o : Od) : Value := .agg #[.int .i64 o.1, .string o.2.1, .string o.2.2]
def WordPost (w : World) (r : Option Od) (e : Ending) (w' : World) : Prop :=
  ∃ o : Od, e = .returned (.tuple #[opAgg o, .bool r.isSome]) ∧ (∀ p, r = some p → o = p) ∧ smallO o ∧ Below w.heap.size w w'
theorem word_small {o : Od} (h1 : 0 ≤ o.1 ∧ o.1 ≤ 3) (h2 : o.2.1.size ≤ maxLen) (h3 : o.2.2.size ≤ maxLen) : smallO o := ⟨WalkArith.wf_i64 (by omega), h2, h3⟩
theorem extract_sz (s : ByteArray) (a b : Nat) (hs : s.size ≤ 1099511627776) : (s.extract a b).size ≤ 1099511627776 := by
  rw [extract_begun, ba_size]; unfold begun; have := size_len s; simp; omega
theorem extract_le (s : ByteArray) (a b : Nat) (hs : s.size ≤ 1099511627776) : (s.extract a b).size ≤ maxLen := begun_size s a b (by unfold maxLen; omega)
def OpAt (s : ByteArray) (k : Nat) : Option Od := opGo (s.data.toList.take k) (s.data.toList.drop k)
theorem opAt_end (s : ByteArray) (k : Nat) (h : s.size ≤ k) : OpAt s k = none := by
  unfold OpAt; rw [List.drop_eq_nil_of_le (by rw [size_len]; exact h)]; simp [opGo]
theorem opAt_more (s : ByteArray) (k : Nat) (h : k < s.size) (h1 : ¬ s[k].toNat = 61) (h3 : ¬ s[k].toNat = 63) : OpAt s k = OpAt s (k + 1) := by
  unfold OpAt
  rw [List.drop_eq_getElem_cons (i := k) (by simpa using h), opGo, if_neg, ← take_snoc' s k h]
  · rintro (e | e)
    · exact h1 (congrArg UInt8.toNat e)
    · exact h3 (congrArg UInt8.toNat e)
where
  take_snoc' (s : ByteArray) (k : Nat) (h : k < s.size) : s.data.toList.take (k + 1) = s.data.toList.take k ++ [s.data.toList[k]'(by simpa using h)] := by
    rw [List.take_succ_eq_append_getElem (by simpa using h)]
theorem opAt_sign (s : ByteArray) (k : Nat) (h : k < s.size) (h1 : s[k].toNat = 61 ∨ s[k].toNat = 63) :
    OpAt s k = if plainS (s.extract (k + 1) s.size) = true then some (if s[k].toNat = 61 then 1 else 3, s.extract 0 k, s.extract (k + 1) s.size) else none := by
  unfold OpAt
  have e1 : s.extract (k + 1) s.size = ⟨(s.data.toList.drop (k + 1)).toArray⟩ := by
    apply bytes_ext; rw [Lib.extract_data]; simp [List.take_of_length_le]
  have e2 : s.extract 0 k = ⟨(s.data.toList.take k).toArray⟩ := by
    apply bytes_ext; rw [Lib.extract_data]; simp
  rw [List.drop_eq_getElem_cons (i := k) (by simpa using h), opGo, e1, e2]
  have hg : s.data.toList[k]'(by simpa using h) = s[k] := rfl
  rw [hg]
  rcases h1 with h1 | h1
  · have : s[k] = 61 := UInt8.toNat_inj.1 h1
    rw [if_pos (.inl this), this]; rfl
  · have : s[k] = 63 := UInt8.toNat_inj.1 h1
    rw [if_pos (.inr this), this]; rfl
theorem wordOp_dash (s : ByteArray) (h : 0 < s.size) (h1 : s[0].toNat = 45) : wordOp s.data.toList = some (2, s.extract 1 s.size, ⟨#[]⟩) := by
  have e1 : s.extract 1 s.size = ⟨(s.data.toList.drop 1).toArray⟩ := by
    apply bytes_ext; rw [Lib.extract_data]; simp [List.take_of_length_le]
  have e := List.drop_eq_getElem_cons (l := s.data.toList) (i := 0) (by simpa using h)
  rw [List.drop_zero] at e
  rw [e, wordOp, if_pos (UInt8.toNat_inj.1 h1), e1]
theorem wordOp_at (s : ByteArray) (h1 : ∀ h : 0 < s.size, ¬ s[0].toNat = 45) : wordOp s.data.toList = OpAt s 0 := by
  unfold OpAt
  rw [List.take_zero, List.drop_zero]
  by_cases h : 0 < s.size
  · have e := List.drop_eq_getElem_cons (l := s.data.toList) (i := 0) (by simpa using h)
    rw [List.drop_zero] at e
    rw [e, wordOp, if_neg]
    intro e2
    exact h1 h (congrArg UInt8.toNat e2)
  · have : s.data.toList = [] := List.eq_nil_of_length_eq_zero (by rw [size_len]; omega)
    rw [this]; simp [wordOp, opGo]

set_option maxRecDepth 100000 in
set_option maxHeartbeats 2000000 in
theorem spec_word (s : ByteArray) (w : World) (hs : s.size ≤ 1099511627776) :
    Calls Try.prog 41 #[.string s] w fun e w' => WordPost w (wordOp s.data.toList) e w' := by
  have hba : Below w.heap.size w (w.alloc (.cells #[.int .i64 0, .string ⟨#[]⟩, .string ⟨#[]⟩] 53)) := (Below.refl _ _).alloc (Nat.le_refl _) _
  have hbx : BoxT w.heap.size init (w.alloc (.cells #[.int .i64 0, .string ⟨#[]⟩, .string ⟨#[]⟩] 53)) := boxT_new w init
  by_cases hd : ∃ h : 0 < s.size, s[0].toNat = 45
  · obtain ⟨h0, hd⟩ := hd
    rw [wordOp_dash s h0 hd]
    have h0i : (0 : Int) < (s.size : Int) := by omega
    have hq : ((s[0].toNat : Int) == 45) = true := by rw [hd]; rfl
    have h1i : (0 : Int) ≤ 1 ∧ (1 : Int) ≤ (s.size : Int) := by omega
    have hsl : ∀ W, (Instr.slice 9 (.string s) (some (.int .i64 1)) none none).run Try.prog W = .ok (.string (s.extract 1 s.size)) W := fun W => by
      rw [run_slice_string_from_if W 9 s .i64 1 Try.underlying9, if_pos h1i]; rfl
    have hb2 := boxT_new w (2, s.extract 1 s.size, ⟨#[]⟩)
    obtain ⟨c0, c1, c2⟩ := hb2.cells
    have hB2 : Below w.heap.size w (w.alloc (.cells #[.int .i64 2, .string (s.extract 1 s.size), .string ⟨#[]⟩] 53)) := (Below.refl _ _).alloc (Nat.le_refl _) _
    have hx := extract_le s 1 s.size hs
    clear hb2
    go_enter Try.func41, Try.ntmps41
    go_wp2_with fail
    refine bodyPost_ret (v := .tuple #[opAgg (2, s.extract 1 s.size, ⟨#[]⟩), .bool true]) ?_ rfl ⟨(2, s.extract 1 s.size, ⟨#[]⟩), rfl, fun p e => by cases e; rfl, word_small ⟨by simp, by simp⟩ hx (Nat.zero_le _), hB2⟩
    simp [results, Try.results41, go_sem, opAgg, c0, c1, c2]
  · rw [wordOp_at s (fun h e => hd ⟨h, e⟩)]
    have hd0 : ∀ h : 0 < s.size, ¬ s[0].toNat = 45 := fun h e => hd ⟨h, e⟩
    clear hba hd
    generalize hR : OpAt s 0 = R
    have HR := Hid.mk' hR
    have HD : Hid (∀ h : 0 < s.size, ((s[0].toNat : Int) == 45) = false) := fun h => by
      rw [beq_eq_false_iff_ne]; intro e; exact hd0 h (by omega)
    clear hR hd0
    have hpre : ∀ (wr : World) (a : Act), a.tmps = #[] → True := fun _ _ _ => trivial
    clear hpre
    by_cases h0 : 0 < s.size
    · have hx0 := HD.out
      have h0i : (0 : Int) < (s.size : Int) := by omega
      have hq := hx0 h0
      clear hx0
      go_enter Try.func41, Try.ntmps41
      go_wp2_with fail
      go_loopw [4] (fun i wr => ∃ k : Nat, k ≤ s.size ∧ i = .int .i64 (k : Int) ∧ OpAt s k = R ∧ BoxT w.heap.size init wr ∧ Below w.heap.size w wr) (fun i _ => s.size - (intOf i).toNat)
      case atStart => exact ⟨0, Nat.zero_le _, rfl, HR.out, hbx, (Below.refl _ _).alloc (Nat.le_refl _) _⟩
      case round =>
        obtain ⟨k, hk, rfl, hr, hX, hB⟩ := hrel
        clear hbx
        clear hq
        obtain ⟨x0, x1, x2⟩ := hX.cells
        have hXl := hX.lt
        have f0 := hX.fz 0
        have f1 := hX.fz 1
        have f2 := hX.fz 2
        by_cases hlt : k < s.size
        · have hki : (k : Int) < (s.size : Int) := by omega
          have hkl : (0 : Int) ≤ (k : Int) ∧ (k : Int) ≤ (s.size : Int) := by omega
          have hkl2 : (0 : Int) ≤ (k : Int) + 1 ∧ (k : Int) + 1 ≤ (s.size : Int) := by omega
          have hwr : IntKind.i64.wrap ((k : Int) + 1) = (k : Int) + 1 := by rw [IntKind.wrap_i64]; omega
          have hkl3 : (k : Int) + 1 ≤ (s.size : Int) := by omega
          have hkl4 : (0 : Int) ≤ (k : Int) + 1 := by omega
          have hkl5 : (k : Int) ≤ (s.size : Int) := by omega
          have hkl6 : (0 : Int) ≤ (k : Int) := by omega
          have hs1 : ∀ W, (Instr.slice 9 (.string s) none (some (.int .i64 (k : Int))) none).run Try.prog W = .ok (.string (s.extract 0 k)) W := fun W => by
            rw [run_slice_string_to_if W 9 s .i64 (k : Int) Try.underlying9, if_pos hkl]; rfl
          have hs2 : ∀ W, (Instr.slice 9 (.string s) (some (.int .i64 ((k : Int) + 1))) none none).run Try.prog W = .ok (.string (s.extract (k + 1) s.size)) W := fun W => by
            rw [run_slice_string_from_if W 9 s .i64 ((k : Int) + 1) Try.underlying9, if_pos hkl2, show ((k : Int) + 1).toNat = k + 1 by omega]
          have hp1 := extract_le s 0 k hs
          have hp2 := extract_le s (k + 1) s.size hs
          by_cases h1 : s[k].toNat = 61
          · have hq1 : ((s[k].toNat : Int) != 61) = false := by rw [h1]; rfl
            have hq2 : ((s[k].toNat : Int) != 63) = true := by rw [h1]; rfl
            have hq3 : ((s[k].toNat : Int) == 63) = false := by rw [h1]; rfl
            have hw1 : (s[k].toNat : Int) = 61 := by omega
            have HA := opAt_sign s k hlt (.inl h1)
            rw [hr, if_pos h1] at HA
            have HPL := fun W => spec_plain (s.extract (k + 1) s.size) W (extract_sz s (k + 1) s.size hs)
            generalize s.extract 0 k = sk at *
            generalize s.extract (k + 1) s.size = sv at *
            have hXk := boxT_kept hX (.cells #[.int .i64 1, .string sk, .string sv] 53)
            obtain ⟨hXs, hGs⟩ := hX.set (1, sk, sv)
            have hBs := hB.grown hGs hB.size (fun j e => by cases e; exact Nat.le_refl _)
            have HBs := Hid.mk' ((hBs.alloc hBs.size (.cells #[.int .i64 1, .string sk, .string sv] 53)).drew.drew)
            have HXs := Hid.mk' (boxT_kept2 hXs (.cells #[.int .i64 1, .string sk, .string sv] 53)).cells
            obtain ⟨y0, y1, y2⟩ := (boxT_made wr (1, sk, sv)).cells
            have F0 := hXk.fz 0
            have F1 := hXk.fz 1
            have F2 := hXk.fz 2
            obtain ⟨z0, z1, z2⟩ := hXk.cells
            have HS := Hid.mk' (word_small (o := (1, sk, sv)) ⟨by simp, by simp⟩ hp1 hp2)
            clear hr hB hX hXk hXs hGs hBs hkl hkl2 hp1 hp2 h1
            have HPL := Hid.mk' HPL
            cases hP : plainS sv
            all_goals
              rw [hP] at HPL
              rw [hP] at HA
              have HA := Hid.mk' HA
              clear hP
              go_wp2_with fail
              go_region
              go_wp2_with fail
              go_region_with (go_at_call 36; refine (HPL.out _).mono ?_; rintro e w7 ⟨rfl, hw7⟩; subst hw7)
              all_goals
                go_wp2_with fail
                obtain ⟨c0, c1, c2⟩ := HXs.out
                have HA' := HA.out
                simp only [if_true, if_false, Bool.false_eq_true] at HA'
                subst HA'
                refine bodyPost_ret (v := .tuple #[opAgg (1, sk, sv), .bool _]) ?_ rfl ⟨(1, sk, sv), rfl, (fun p e => by cases e <;> rfl), HS.out, HBs.out⟩
                simp [results, Try.results41, go_sem, opAgg, c0, c1, c2]
          · by_cases h3 : s[k].toNat = 63
            · have hq1 : ((s[k].toNat : Int) != 61) = true := by rw [h3]; rfl
              have hq2 : ((s[k].toNat : Int) != 63) = false := by rw [h3]; rfl
              have hq3 : ((s[k].toNat : Int) == 63) = true := by rw [h3]; rfl
              have hw1 : (s[k].toNat : Int) = 63 := by omega
              have HA := opAt_sign s k hlt (.inr h3)
              rw [hr, if_neg (by omega : ¬ s[k].toNat = 61)] at HA
              have HPL := fun W => spec_plain (s.extract (k + 1) s.size) W (extract_sz s (k + 1) s.size hs)
              generalize s.extract 0 k = sk at *
              generalize s.extract (k + 1) s.size = sv at *
              have hXk := boxT_kept hX (.cells #[.int .i64 3, .string sk, .string sv] 53)
              obtain ⟨hXs, hGs⟩ := hX.set (3, sk, sv)
              have hBs := hB.grown hGs hB.size (fun j e => by cases e; exact Nat.le_refl _)
              have HBs := Hid.mk' ((hBs.alloc hBs.size (.cells #[.int .i64 3, .string sk, .string sv] 53)).drew.drew)
              have HXs := Hid.mk' (boxT_kept2 hXs (.cells #[.int .i64 3, .string sk, .string sv] 53)).cells
              obtain ⟨y0, y1, y2⟩ := (boxT_made wr (3, sk, sv)).cells
              have F0 := hXk.fz 0
              have F1 := hXk.fz 1
              have F2 := hXk.fz 2
              obtain ⟨z0, z1, z2⟩ := hXk.cells
              have HS := Hid.mk' (word_small (o := (3, sk, sv)) ⟨by simp, by simp⟩ hp1 hp2)
              clear hr hB hX hXk hXs hGs hBs hkl hkl2 hp1 hp2 h3 h1
              have HPL := Hid.mk' HPL
              cases hP : plainS sv
              all_goals
                rw [hP] at HPL
                rw [hP] at HA
                have HA := Hid.mk' HA
                clear hP
                go_wp2_with fail
                go_region
                go_wp2_with fail
                go_region_with (go_at_call 36; refine (HPL.out _).mono ?_; rintro e w7 ⟨rfl, hw7⟩; subst hw7)
                all_goals
                  go_wp2_with fail
                  obtain ⟨c0, c1, c2⟩ := HXs.out
                  have HA' := HA.out
                  simp only [if_true, if_false, Bool.false_eq_true] at HA'
                  subst HA'
                  refine bodyPost_ret (v := .tuple #[opAgg (3, sk, sv), .bool _]) ?_ rfl ⟨(3, sk, sv), rfl, (fun p e => by cases e <;> rfl), HS.out, HBs.out⟩
                  simp [results, Try.results41, go_sem, opAgg, c0, c1, c2]
            · have HF : Hid (OpAt s (k + 1) = R) := by show _ = _; rw [← hr]; exact (opAt_more s k hlt h1 h3).symm
              have hq1 : ((s[k].toNat : Int) != 61) = true := by rw [bne_iff_ne]; omega
              have hq3 : ((s[k].toNat : Int) != 63) = true := by rw [bne_iff_ne]; omega
              have hw1 : ¬ (s[k].toNat : Int) = 61 := by omega
              clear hr hs1 hs2 h1 h3
              go_wp2_with fail
              exact ⟨⟨k + 1, by omega, by go_num, HF.out, hX, hB⟩, by simp [intOf]; omega⟩
        · have hki : ¬ (k : Int) < (s.size : Int) := by omega
          have HF : Hid (R = none) := by show _ = _; rw [← hr]; exact opAt_end s k (by omega)
          clear hr
          obtain ⟨hbS, hgS⟩ := hX.set init
          obtain ⟨c0, c1, c2⟩ := hbS.cells
          have hBS := hB.grown hgS hB.size (fun j e => by cases e; exact Nat.le_refl _)
          clear hbS hgS
          go_wp2_with fail
          rw [HF.out]
          refine bodyPost_ret (v := .tuple #[opAgg init, .bool false]) ?_ rfl ⟨init, rfl, (fun p e => nomatch e), word_small ⟨by simp, by simp⟩ (Nat.zero_le _) (Nat.zero_le _), hBS⟩
          simp [results, Try.results41, go_sem, opAgg, c0, c1, c2]
    · have hx0 := HD.out
      have h0i : ¬ (0 : Int) < (s.size : Int) := by omega
      clear hx0
      go_enter Try.func41, Try.ntmps41
      go_wp2_with fail
      go_loopw [4] (fun i wr => ∃ k : Nat, k ≤ s.size ∧ i = .int .i64 (k : Int) ∧ OpAt s k = R ∧ BoxT w.heap.size init wr ∧ Below w.heap.size w wr) (fun i _ => s.size - (intOf i).toNat)
      case atStart => exact ⟨0, Nat.zero_le _, rfl, HR.out, hbx, (Below.refl _ _).alloc (Nat.le_refl _) _⟩
      case round =>
        obtain ⟨k, hk, rfl, hr, hX, hB⟩ := hrel
        clear hbx
        obtain ⟨x0, x1, x2⟩ := hX.cells
        have hXl := hX.lt
        have f0 := hX.fz 0
        have f1 := hX.fz 1
        have f2 := hX.fz 2
        by_cases hlt : k < s.size
        · exfalso; omega
        · have hki : ¬ (k : Int) < (s.size : Int) := by omega
          have HF : Hid (R = none) := by show _ = _; rw [← hr]; exact opAt_end s k (by omega)
          clear hr
          obtain ⟨hbS, hgS⟩ := hX.set init
          obtain ⟨c0, c1, c2⟩ := hbS.cells
          have hBS := hB.grown hgS hB.size (fun j e => by cases e; exact Nat.le_refl _)
          clear hbS hgS
          go_wp2_with fail
          rw [HF.out]
          refine bodyPost_ret (v := .tuple #[opAgg init, .bool false]) ?_ rfl ⟨init, rfl, (fun p e => nomatch e), word_small ⟨by simp, by simp⟩ (Nat.zero_le _) (Nat.zero_le _), hBS⟩
          simp [results, Try.results41, go_sem, opAgg, c0, c1, c2]

end Go.Proofs.Ytefjbpkomphjdaa.txts

namespace Go.Proofs.Ytefjbpkomphjdaa.base
open Go.RowKit
set_option linter.unusedVariables false
set_option linter.unusedSimpArgs false

def Bts (w : World) (g : Nat) (s : ByteArray) : Prop := g < w.heap.size ∧ ∀ j (h : j < s.size), w.cell? ⟨g, j, none⟩ = some (.int .u8 (s[j].toNat : Int))
theorem bts_new (w : World) (s : ByteArray) : Bts (Lib.bytesWorld w 5 s) w.heap.size s := by
  refine ⟨by rw [Lib.bytesWorld_size]; omega, fun j h => ?_⟩
  rw [Lib.bytesWorld_cell w 5 s j h]; simp [List.getD, h]; rfl
theorem Bts.grown {w w' : World} {g g2 : Nat} {s : ByteArray} (h : Bts w g s) (hg : w.grownBy w' (some g2)) (hne : g ≠ g2) : Bts w' g s :=
  ⟨Nat.lt_of_lt_of_le h.1 hg.size, fun j hj => hg.cell (h.2 j hj) (by simpa using hne)⟩
theorem Bts.below {w w' : World} {g : Nat} {s : ByteArray} (h : Bts w g s) (hb : Below w.heap.size w w') : Bts w' g s :=
  ⟨Nat.lt_of_lt_of_le h.1 hb.size, fun j hj => (hb.cell (p := ⟨g, j, none⟩) h.1).trans (h.2 j hj)⟩

end Go.Proofs.Ytefjbpkomphjdaa.base

namespace Go.Proofs.Ytefjbpkomphjdaa.pairs
open Go Go.RowKit Go.Proofs.Ytefjbpkomphjdaa.base
set_option linter.unusedVariables false
set_option linter.unusedSimpArgs false

set_option maxHeartbeats 400000 in
theorem i_keySign (c : Nat) (w : World) (hc : c < 256) :
    Calls Try.prog 73 #[.int .u8 (c : Int)] w fun e w' => e = .returned (.bool (keyCh c)) ∧ w' = w := by
  by_cases h1 : 97 ≤ c
  · by_cases h2 : c ≤ 122
    · go_enter Try.func73, Try.ntmps73
      go_wp2
      go_ret
      exact ⟨ret_bool (by simp [keyCh, h1, h2]), rfl⟩
    · have h3 : ¬ c ≤ 57 := by omega
      have h4 : 48 ≤ c := by omega
      go_enter Try.func73, Try.ntmps73
      go_wp2
      go_ret
      exact ⟨ret_bool (by simp [keyCh, h2, h3]; omega), rfl⟩
  · by_cases h2 : 48 ≤ c
    · by_cases h3 : c ≤ 57
      · go_enter Try.func73, Try.ntmps73
        go_wp2
        go_ret
        exact ⟨ret_bool (by simp [keyCh, h2, h3]; omega), rfl⟩
      · go_enter Try.func73, Try.ntmps73
        go_wp2
        go_ret
        exact ⟨ret_bool (by simp [keyCh, h1, h3]; omega), rfl⟩
    · go_enter Try.func73, Try.ntmps73
      go_wp2
      go_ret
      exact ⟨ret_bool (by simp [keyCh, h1, h2]), rfl⟩

set_option maxRecDepth 100000 in
set_option maxHeartbeats 1000000 in
theorem impl_keyOk (s : ByteArray) (w : World) (hs : s.size ≤ 1099511627776) :
    Calls Try.prog 66 #[.string s] w fun e w' => e = .returned (.bool (keyOk s)) ∧ Below w.heap.size w w' := by
  by_cases h0 : s.size < 1
  · go_enter Try.func66, Try.ntmps66
    go_wp2_with fail
    go_ret
    exact ⟨ret_bool (by simp [keyOk]; omega), Below.refl _ _⟩
  by_cases h12 : 12 < s.size
  · go_enter Try.func66, Try.ntmps66
    go_wp2_with fail
    go_ret
    exact ⟨ret_bool (by simp [keyOk]; omega), Below.refl _ _⟩
  have HZ : Hid (decide (1 ≤ s.size ∧ s.size ≤ 12) = true) := by show _ = _; simp; omega
  generalize hR : keyAll s.data.toList = R
  have HR := Hid.mk' hR
  clear hR
  have hconv := Lib.run_convert_string_bytes (P := Try.prog) w 9 22 5 s Try.underlying9 Try.underlying22 Try.underlying5
  have hbts := bts_new w s
  have hBB := below_bytesWorld w 5 s
  go_enter Try.func66, Try.ntmps66
  go_wp2_with fail
  generalize Lib.bytesWorld w 5 s = w1 at *
  go_loop [16] (fun i => ∃ k : Nat, k ≤ s.size ∧ i = .int .i64 (k : Int) ∧ keyAll (s.data.toList.drop k) = R) (fun i => s.size - (intOf i).toNat)
  case atStart => exact ⟨0, Nat.zero_le _, rfl, HR.out⟩
  case round =>
    obtain ⟨k, hk, rfl, hr⟩ := hrel
    clear hconv
    by_cases hlt : k < s.size
    · have hst := keyAll_drop s k hlt
      rw [hr] at hst
      have hc := s[k].toNat_lt
      have hcl := hbts.2 k hlt
      generalize hC : s[k].toNat = c at *
      have hki : (k : Int) < (s.size : Int) := by omega
      have hl := i_keySign c w1 (by omega)
      cases hq : keyCh c
      · rw [hq] at hl hst
        have HF : Hid (R = false) := by show _ = _; simpa using hst
        have HL := Hid.mk' hl
        clear hl hst hr hC
        go_wp2_with fail
        refine HL.out.mono ?_
        rintro e w2 ⟨rfl, rfl⟩
        go_wp2_with fail
        go_ret
        exact ⟨ret_bool (by unfold keyOk; rw [HR.out, HF.out]; rfl), hBB⟩
      · rw [hq] at hl hst
        have HF : Hid (keyAll (s.data.toList.drop (k + 1)) = R) := by show _ = _; simpa using hst.symm
        have HL := Hid.mk' hl
        clear hl hst hr hC
        go_wp2_with fail
        refine HL.out.mono ?_
        rintro e w2 ⟨rfl, rfl⟩
        go_wp2_with fail
        go_round
        case rel => exact ⟨k + 1, by omega, by go_num, HF.out⟩
        case measure => simp [intOf]; omega
    · have HF : Hid (R = true) := by show _ = _; rw [← hr, List.drop_eq_nil_of_le (by simp; omega)]; rfl
      clear hr
      go_wp2_with fail
      go_ret
      exact ⟨ret_bool (by unfold keyOk; rw [HR.out, HF.out, HZ.out]; rfl), hBB⟩

set_option maxHeartbeats 400000 in
theorem impl_pairOk (p : Pr) (w : World) (hp : small p) (hs : p.1.size ≤ 1099511627776) :
    Calls Try.prog 65 #[.agg #[.string p.1, .string p.2]] w fun e w' => e = .returned (.bool (pairOk p)) ∧ Below w.heap.size w w' := by
  have h2 := hp.2
  unfold maxLen at h2
  have hba : Below w.heap.size w (w.alloc (.cells #[.string p.1, .string p.2] 36)) := (Below.refl _ _).alloc (Nat.le_refl _) _
  have hk := impl_keyOk p.1 (w.alloc (.cells #[.string p.1, .string p.2] 36)) hs
  cases hK : keyOk p.1
  · rw [hK] at hk
    have HK := Hid.mk' hk
    have H1 := Hid.mk' hK
    clear hk hK
    go_enter Try.func65, Try.ntmps65
    go_wp2_with fail
    refine HK.out.mono ?_
    rintro e w1 ⟨rfl, hb1⟩
    go_wp2_with fail
    go_ret
    exact ⟨ret_bool (by unfold pairOk; rw [H1.out]; rfl), hba.trans (hb1.mono hba.size)⟩
  · rw [hK] at hk
    have HK := Hid.mk' hk
    have H1 := Hid.mk' hK
    clear hk hK
    go_enter Try.func65, Try.ntmps65
    go_wp2_with fail
    refine HK.out.mono ?_
    rintro e w1 ⟨rfl, hb1⟩
    have hc := bcell hb1
    go_wp2_with fail
    go_ret
    exact ⟨ret_bool (by unfold pairOk; rw [H1.out]; simp; omega), hba.trans (hb1.mono hba.size)⟩

end Go.Proofs.Ytefjbpkomphjdaa.pairs
