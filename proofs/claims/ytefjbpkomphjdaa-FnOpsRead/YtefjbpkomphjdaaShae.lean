/- The specification's statements: a word's order. The specification's statements: orders of a text. -/
import Derived.Test.YtefjbpkomphjdaaShad
import Derived.Test.YtefjbpkomphjdaaShab
namespace Go.Proofs.Ytefjbpkomphjdaa.txts
open Go Go.RowKit Go.Proofs.Ytefjbpkomphjdaa.base Go.Proofs.Ytefjbpkomphjdaa.pairs Go.Proofs.Ytefjbpkomphjdaa.ords
set_option linter.unusedVariables false
set_option linter.unusedSimpArgs false

def BoxT (X : Nat) (p : Od) (w : World) : Prop := w.heap[X]? = some (.cells #[.int .i64 p.1, .string p.2.1, .string p.2.2] 53 (0, 0))
theorem boxT_new (w : World) (p : Od) : BoxT w.heap.size p (w.alloc (.cells #[.int .i64 p.1, .string p.2.1, .string p.2.2] 53)) := heap_alloc_new w _
section
variable {X : Nat} {p q : Od} {w w' : World}
theorem BoxT.cells (h : BoxT X p w) : w.cell? ⟨X, 0, none⟩ = some (.int .i64 p.1) ∧ w.cell? ⟨X, 1, none⟩ = some (.string p.2.1) ∧ w.cell? ⟨X, 2, none⟩ = some (.string p.2.2) := by
  unfold BoxT at h
  simp [World.cell?, h]
theorem BoxT.lt (h : BoxT X p w) : X < w.heap.size := (Array.getElem?_eq_some_iff.1 h).1
theorem BoxT.fz (h : BoxT X p w) (i : Nat) : w.frozen? ⟨X, i, none⟩ = false := by unfold BoxT at h; simp [World.frozen?, h]
theorem BoxT.below (h : BoxT X p w) (hb : Below w.heap.size w w') : BoxT X p w' := by
  have h' := h.lt
  unfold BoxT at h ⊢
  rw [hb.block X h', h]
theorem BoxT.grown {row : Option Nat} (h : BoxT X p w) (hg : w.grownBy w' row) (hne : some X ≠ row) : BoxT X p w' := by
  have h' := h.lt
  unfold BoxT at h ⊢
  rw [hg.block X h' hne, h]
theorem BoxT.set (h : BoxT X p w) (q : Od) : BoxT X q (((w.setCell ⟨X, 0, none⟩ (.int .i64 q.1)).setCell ⟨X, 1, none⟩ (.string q.2.1)).setCell ⟨X, 2, none⟩ (.string q.2.2)) ∧ w.grownBy (((w.setCell ⟨X, 0, none⟩ (.int .i64 q.1)).setCell ⟨X, 1, none⟩ (.string q.2.1)).setCell ⟨X, 2, none⟩ (.string q.2.2)) (some X) := by
  unfold BoxT at h
  obtain ⟨h1, g1⟩ := set_cur h 0 (.int .i64 q.1)
  obtain ⟨h2, g2⟩ := set_cur h1 1 (.string q.2.1)
  obtain ⟨h3, g3⟩ := set_cur h2 2 (.string q.2.2)
  refine ⟨?_, grownBy_trans (grownBy_trans g1 g2) g3⟩
  unfold BoxT
  rw [h3]
  simp
theorem BoxT.kind (h : BoxT X p w) (z : Int) : BoxT X (z, p.2) (w.setCell ⟨X, 0, none⟩ (.int .i64 z)) ∧ w.grownBy (w.setCell ⟨X, 0, none⟩ (.int .i64 z)) (some X) := by
  unfold BoxT at h
  obtain ⟨h1, g1⟩ := set_cur h 0 (.int .i64 z)
  refine ⟨?_, g1⟩
  unfold BoxT
  rw [h1]
  simp
end
theorem boxT_made (w : World) (p : Od) : BoxT w.heap.size p (w.alloc (.cells #[.int .i64 p.1, .string p.2.1, .string p.2.2] 53)).drew := (boxT_new w p).below (Below.refl _ _).drew
theorem boxT_kept {X : Nat} {p : Od} {w : World} (h : BoxT X p w) (o : Obj) : BoxT X p (w.alloc o).drew := h.below ((Below.refl _ _).alloc (Nat.le_refl _) _).drew
theorem boxT_kept2 {X : Nat} {p : Od} {w : World} (h : BoxT X p w) (o : Obj) : BoxT X p (w.alloc o).drew.drew := h.below ((Below.refl _ _).alloc (Nat.le_refl _) _).drew.drew
def opAgg (o : Od) : Value := .agg #[.int .i64 o.1, .string o.2.1, .string o.2.2]
def WordPost (w : World) (r : Option Od) (e : Ending) (w' : World) : Prop :=
  ∃ o : Od, e = .returned (.tuple #[opAgg o, .bool r.isSome]) ∧ (∀ p, r = some p → o = p) ∧ smallO o ∧ Below w.heap.size w w'
theorem word_small {o : Od} (h1 : 0 ≤ o.1 ∧ o.1 ≤ 3) (h2 : o.2.1.size ≤ maxLen) (h3 : o.2.2.size ≤ maxLen) : smallO o := ⟨WalkArith.wf_i64 (by omega), h2, h3⟩
theorem extract_sz (s : ByteArray) (a b : Nat) (hs : s.size ≤ 1099511627776) : (s.extract a b).size ≤ 1099511627776 := by
  rw [extract_begun, ba_size]; unfold begun; have := size_len s; simp; omega
theorem extract_le (s : ByteArray) (a b : Nat) (hs : s.size ≤ 1099511627776) : (s.extract a b).size ≤ maxLen := begun_size s a b (by unfold maxLen; omega)
def OpAt (s : ByteArray) (k : Nat) : Option Od := opGo (s.data.toList.take k) (s.data.toList.drop k)
theorem opAt_end (s : ByteArray) (k : Nat) (h : s.size ≤ k) : OpAt s k = none := by
  unfold OpAt; rw [List.drop_eq_nil_of_le (by rw [size_len]; exact h)]; simp [opGo]
theorem take_at (s : ByteArray) (k : Nat) (h : k < s.size) : s.data.toList.take (k + 1) = s.data.toList.take k ++ [s.data.toList[k]'(by simpa using h)] := by
  rw [List.take_succ_eq_append_getElem (by simpa using h)]
theorem opAt_more (s : ByteArray) (k : Nat) (h : k < s.size) (h1 : ¬ s[k].toNat = 61) (h3 : ¬ s[k].toNat = 63) : OpAt s k = OpAt s (k + 1) := by
  unfold OpAt
  rw [List.drop_eq_getElem_cons (i := k) (by simpa using h), opGo, if_neg, ← take_at s k h]
  · rintro (e | e)
    · exact h1 (congrArg UInt8.toNat e)
    · exact h3 (congrArg UInt8.toNat e)
theorem opAt_sign (s : ByteArray) (k : Nat) (h : k < s.size) (h1 : s[k].toNat = 61 ∨ s[k].toNat = 63) :
    OpAt s k = if plainS (s.extract (k + 1) s.size) = true then some (if s[k].toNat = 61 then 1 else 3, s.extract 0 k, s.extract (k + 1) s.size) else none := by
  unfold OpAt
  have e1 : s.extract (k + 1) s.size = ⟨(s.data.toList.drop (k + 1)).toArray⟩ := by
    apply bytes_ext; rw [Lib.extract_data]; simp [List.take_of_length_le]
  have e2 : s.extract 0 k = ⟨(s.data.toList.take k).toArray⟩ := by
    apply bytes_ext; rw [Lib.extract_data]; simp
  rw [List.drop_eq_getElem_cons (i := k) (by simpa using h), opGo, e1, e2]
  have hg : s.data.toList[k]'(by simpa using h) = s[k] := rfl
  rw [hg]
  rcases h1 with h1 | h1
  · have : s[k] = 61 := UInt8.toNat_inj.1 h1
    rw [if_pos (.inl this), this]; rfl
  · have : s[k] = 63 := UInt8.toNat_inj.1 h1
    rw [if_pos (.inr this), this]; rfl
theorem wordOp_dash (s : ByteArray) (h : 0 < s.size) (h1 : s[0].toNat = 45) : wordOp s.data.toList = some (2, s.extract 1 s.size, ⟨#[]⟩) := by
  have e1 : s.extract 1 s.size = ⟨(s.data.toList.drop 1).toArray⟩ := by
    apply bytes_ext; rw [Lib.extract_data]; simp [List.take_of_length_le]
  have e := List.drop_eq_getElem_cons (l := s.data.toList) (i := 0) (by simpa using h)
  rw [List.drop_zero] at e
  rw [e, wordOp, if_pos (UInt8.toNat_inj.1 h1), e1]
theorem wordOp_at (s : ByteArray) (h1 : ∀ h : 0 < s.size, ¬ s[0].toNat = 45) : wordOp s.data.toList = OpAt s 0 := by
  unfold OpAt
  rw [List.take_zero, List.drop_zero]
  by_cases h : 0 < s.size
  · have e := List.drop_eq_getElem_cons (l := s.data.toList) (i := 0) (by simpa using h)
    rw [List.drop_zero] at e
    rw [e, wordOp, if_neg]
    intro e2
    exact h1 h (congrArg UInt8.toNat e2)
  · have : s.data.toList = [] := List.eq_nil_of_length_eq_zero (by rw [size_len]; omega)
    rw [this]; simp [wordOp, opGo]

set_option maxRecDepth 100000 in
set_option maxHeartbeats 2000000 in
theorem spec_word (s : ByteArray) (w : World) (hs : s.size ≤ 1099511627776) :
    Calls Try.prog 41 #[.string s] w fun e w' => WordPost w (wordOp s.data.toList) e w' := by
  have hba : Below w.heap.size w (w.alloc (.cells #[.int .i64 0, .string ⟨#[]⟩, .string ⟨#[]⟩] 53)) := (Below.refl _ _).alloc (Nat.le_refl _) _
  have hbx : BoxT w.heap.size init (w.alloc (.cells #[.int .i64 0, .string ⟨#[]⟩, .string ⟨#[]⟩] 53)) := boxT_new w init
  by_cases hd : ∃ h : 0 < s.size, s[0].toNat = 45
  · obtain ⟨h0, hd⟩ := hd
    rw [wordOp_dash s h0 hd]
    have h0i : (0 : Int) < (s.size : Int) := by omega
    have hq : ((s[0].toNat : Int) == 45) = true := by rw [hd]; rfl
    have h1i : (0 : Int) ≤ 1 ∧ (1 : Int) ≤ (s.size : Int) := by omega
    have hsl : ∀ W, (Instr.slice 9 (.string s) (some (.int .i64 1)) none none).run Try.prog W = .ok (.string (s.extract 1 s.size)) W := fun W => by
      rw [run_slice_string_from_if W 9 s .i64 1 Try.underlying9, if_pos h1i]; rfl
    have hb2 := boxT_new w (2, s.extract 1 s.size, ⟨#[]⟩)
    obtain ⟨c0, c1, c2⟩ := hb2.cells
    have hB2 : Below w.heap.size w (w.alloc (.cells #[.int .i64 2, .string (s.extract 1 s.size), .string ⟨#[]⟩] 53)) := (Below.refl _ _).alloc (Nat.le_refl _) _
    have hx := extract_le s 1 s.size hs
    clear hb2
    go_enter Try.func41, Try.ntmps41
    go_wp2_with fail
    refine bodyPost_ret (v := .tuple #[opAgg (2, s.extract 1 s.size, ⟨#[]⟩), .bool true]) ?_ rfl ⟨(2, s.extract 1 s.size, ⟨#[]⟩), rfl, fun p e => by cases e; rfl, word_small ⟨by simp, by simp⟩ hx (Nat.zero_le _), hB2⟩
    simp [results, Try.results41, go_sem, opAgg, c0, c1, c2]
  · rw [wordOp_at s (fun h e => hd ⟨h, e⟩)]
    have hd0 : ∀ h : 0 < s.size, ¬ s[0].toNat = 45 := fun h e => hd ⟨h, e⟩
    clear hba hd
    generalize hR : OpAt s 0 = R
    have HR := Hid.mk' hR
    have HD : Hid (∀ h : 0 < s.size, ((s[0].toNat : Int) == 45) = false) := fun h => by
      rw [beq_eq_false_iff_ne]; intro e; exact hd0 h (by omega)
    clear hR hd0
    have hpre : ∀ (wr : World) (a : Act), a.tmps = #[] → True := fun _ _ _ => trivial
    clear hpre
    by_cases h0 : 0 < s.size
    · have hx0 := HD.out
      have h0i : (0 : Int) < (s.size : Int) := by omega
      have hq := hx0 h0
      clear hx0
      go_enter Try.func41, Try.ntmps41
      go_wp2_with fail
      go_loopw [4] (fun i wr => ∃ k : Nat, k ≤ s.size ∧ i = .int .i64 (k : Int) ∧ OpAt s k = R ∧ BoxT w.heap.size init wr ∧ Below w.heap.size w wr) (fun i _ => s.size - (intOf i).toNat)
      case atStart => exact ⟨0, Nat.zero_le _, rfl, HR.out, hbx, (Below.refl _ _).alloc (Nat.le_refl _) _⟩
      case round =>
        obtain ⟨k, hk, rfl, hr, hX, hB⟩ := hrel
        clear hbx
        clear hq
        obtain ⟨x0, x1, x2⟩ := hX.cells
        have hXl := hX.lt
        have f0 := hX.fz 0
        have f1 := hX.fz 1
        have f2 := hX.fz 2
        by_cases hlt : k < s.size
        · have hki : (k : Int) < (s.size : Int) := by omega
          have hkl : (0 : Int) ≤ (k : Int) ∧ (k : Int) ≤ (s.size : Int) := by omega
          have hkl2 : (0 : Int) ≤ (k : Int) + 1 ∧ (k : Int) + 1 ≤ (s.size : Int) := by omega
          have hwr : IntKind.i64.wrap ((k : Int) + 1) = (k : Int) + 1 := by rw [IntKind.wrap_i64]; omega
          have hkl3 : (k : Int) + 1 ≤ (s.size : Int) := by omega
          have hkl4 : (0 : Int) ≤ (k : Int) + 1 := by omega
          have hkl5 : (k : Int) ≤ (s.size : Int) := by omega
          have hkl6 : (0 : Int) ≤ (k : Int) := by omega
          have hs1 : ∀ W, (Instr.slice 9 (.string s) none (some (.int .i64 (k : Int))) none).run Try.prog W = .ok (.string (s.extract 0 k)) W := fun W => by
            rw [run_slice_string_to_if W 9 s .i64 (k : Int) Try.underlying9, if_pos hkl]; rfl
          have hs2 : ∀ W, (Instr.slice 9 (.string s) (some (.int .i64 ((k : Int) + 1))) none none).run Try.prog W = .ok (.string (s.extract (k + 1) s.size)) W := fun W => by
            rw [run_slice_string_from_if W 9 s .i64 ((k : Int) + 1) Try.underlying9, if_pos hkl2, show ((k : Int) + 1).toNat = k + 1 by omega]
          have hp1 := extract_le s 0 k hs
          have hp2 := extract_le s (k + 1) s.size hs
          by_cases h1 : s[k].toNat = 61
          · have hq1 : ((s[k].toNat : Int) != 61) = false := by rw [h1]; rfl
            have hq2 : ((s[k].toNat : Int) != 63) = true := by rw [h1]; rfl
            have hq3 : ((s[k].toNat : Int) == 63) = false := by rw [h1]; rfl
            have hw1 : (s[k].toNat : Int) = 61 := by omega
            have HA := opAt_sign s k hlt (.inl h1)
            rw [hr, if_pos h1] at HA
            have HPL := fun W => spec_plain (s.extract (k + 1) s.size) W (extract_sz s (k + 1) s.size hs)
            generalize s.extract 0 k = sk at *
            generalize s.extract (k + 1) s.size = sv at *
            have hXk := boxT_kept hX (.cells #[.int .i64 1, .string sk, .string sv] 53)
            obtain ⟨hXs, hGs⟩ := hX.set (1, sk, sv)
            have hBs := hB.grown hGs hB.size (fun j e => by cases e; exact Nat.le_refl _)
            have HBs := Hid.mk' ((hBs.alloc hBs.size (.cells #[.int .i64 1, .string sk, .string sv] 53)).drew.drew)
            have HXs := Hid.mk' (boxT_kept2 hXs (.cells #[.int .i64 1, .string sk, .string sv] 53)).cells
            obtain ⟨y0, y1, y2⟩ := (boxT_made wr (1, sk, sv)).cells
            have F0 := hXk.fz 0
            have F1 := hXk.fz 1
            have F2 := hXk.fz 2
            obtain ⟨z0, z1, z2⟩ := hXk.cells
            have HS := Hid.mk' (word_small (o := (1, sk, sv)) ⟨by simp, by simp⟩ hp1 hp2)
            clear hr hB hX hXk hXs hGs hBs hkl hkl2 hp1 hp2 h1
            have HPL := Hid.mk' HPL
            cases hP : plainS sv
            all_goals
              rw [hP] at HPL
              rw [hP] at HA
              have HA := Hid.mk' HA
              clear hP
              go_wp2_with fail
              go_region
              go_wp2_with fail
              go_region_with (go_at_call 36; refine (HPL.out _).mono ?_; rintro e w7 ⟨rfl, hw7⟩; subst hw7)
              all_goals
                go_wp2_with fail
                obtain ⟨c0, c1, c2⟩ := HXs.out
                have HA' := HA.out
                simp only [if_true, if_false, Bool.false_eq_true] at HA'
                subst HA'
                refine bodyPost_ret (v := .tuple #[opAgg (1, sk, sv), .bool _]) ?_ rfl ⟨(1, sk, sv), rfl, (fun p e => by cases e <;> rfl), HS.out, HBs.out⟩
                simp [results, Try.results41, go_sem, opAgg, c0, c1, c2]
          · by_cases h3 : s[k].toNat = 63
            · have hq1 : ((s[k].toNat : Int) != 61) = true := by rw [h3]; rfl
              have hq2 : ((s[k].toNat : Int) != 63) = false := by rw [h3]; rfl
              have hq3 : ((s[k].toNat : Int) == 63) = true := by rw [h3]; rfl
              have hw1 : (s[k].toNat : Int) = 63 := by omega
              have HA := opAt_sign s k hlt (.inr h3)
              rw [hr, if_neg (by omega : ¬ s[k].toNat = 61)] at HA
              have HPL := fun W => spec_plain (s.extract (k + 1) s.size) W (extract_sz s (k + 1) s.size hs)
              generalize s.extract 0 k = sk at *
              generalize s.extract (k + 1) s.size = sv at *
              have hXk := boxT_kept hX (.cells #[.int .i64 3, .string sk, .string sv] 53)
              obtain ⟨hXs, hGs⟩ := hX.set (3, sk, sv)
              have hBs := hB.grown hGs hB.size (fun j e => by cases e; exact Nat.le_refl _)
              have HBs := Hid.mk' ((hBs.alloc hBs.size (.cells #[.int .i64 3, .string sk, .string sv] 53)).drew.drew)
              have HXs := Hid.mk' (boxT_kept2 hXs (.cells #[.int .i64 3, .string sk, .string sv] 53)).cells
              obtain ⟨y0, y1, y2⟩ := (boxT_made wr (3, sk, sv)).cells
              have F0 := hXk.fz 0
              have F1 := hXk.fz 1
              have F2 := hXk.fz 2
              obtain ⟨z0, z1, z2⟩ := hXk.cells
              have HS := Hid.mk' (word_small (o := (3, sk, sv)) ⟨by simp, by simp⟩ hp1 hp2)
              clear hr hB hX hXk hXs hGs hBs hkl hkl2 hp1 hp2 h3 h1
              have HPL := Hid.mk' HPL
              cases hP : plainS sv
              all_goals
                rw [hP] at HPL
                rw [hP] at HA
                have HA := Hid.mk' HA
                clear hP
                go_wp2_with fail
                go_region
                go_wp2_with fail
                go_region_with (go_at_call 36; refine (HPL.out _).mono ?_; rintro e w7 ⟨rfl, hw7⟩; subst hw7)
                all_goals
                  go_wp2_with fail
                  obtain ⟨c0, c1, c2⟩ := HXs.out
                  have HA' := HA.out
                  simp only [if_true, if_false, Bool.false_eq_true] at HA'
                  subst HA'
                  refine bodyPost_ret (v := .tuple #[opAgg (3, sk, sv), .bool _]) ?_ rfl ⟨(3, sk, sv), rfl, (fun p e => by cases e <;> rfl), HS.out, HBs.out⟩
                  simp [results, Try.results41, go_sem, opAgg, c0, c1, c2]
            · have HF : Hid (OpAt s (k + 1) = R) := by show _ = _; rw [← hr]; exact (opAt_more s k hlt h1 h3).symm
              have hq1 : ((s[k].toNat : Int) != 61) = true := by rw [bne_iff_ne]; omega
              have hq3 : ((s[k].toNat : Int) != 63) = true := by rw [bne_iff_ne]; omega
              have hw1 : ¬ (s[k].toNat : Int) = 61 := by omega
              clear hr hs1 hs2 h1 h3
              go_wp2_with fail
              exact ⟨⟨k + 1, by omega, by go_num, HF.out, hX, hB⟩, by simp [intOf]; omega⟩
        · have hki : ¬ (k : Int) < (s.size : Int) := by omega
          have HF : Hid (R = none) := by show _ = _; rw [← hr]; exact opAt_end s k (by omega)
          clear hr
          obtain ⟨hbS, hgS⟩ := hX.set init
          obtain ⟨c0, c1, c2⟩ := hbS.cells
          have hBS := hB.grown hgS hB.size (fun j e => by cases e; exact Nat.le_refl _)
          clear hbS hgS
          go_wp2_with fail
          rw [HF.out]
          refine bodyPost_ret (v := .tuple #[opAgg init, .bool false]) ?_ rfl ⟨init, rfl, (fun p e => nomatch e), word_small ⟨by simp, by simp⟩ (Nat.zero_le _) (Nat.zero_le _), hBS⟩
          simp [results, Try.results41, go_sem, opAgg, c0, c1, c2]
    · have hx0 := HD.out
      have h0i : ¬ (0 : Int) < (s.size : Int) := by omega
      clear hx0
      go_enter Try.func41, Try.ntmps41
      go_wp2_with fail
      go_loopw [4] (fun i wr => ∃ k : Nat, k ≤ s.size ∧ i = .int .i64 (k : Int) ∧ OpAt s k = R ∧ BoxT w.heap.size init wr ∧ Below w.heap.size w wr) (fun i _ => s.size - (intOf i).toNat)
      case atStart => exact ⟨0, Nat.zero_le _, rfl, HR.out, hbx, (Below.refl _ _).alloc (Nat.le_refl _) _⟩
      case round =>
        obtain ⟨k, hk, rfl, hr, hX, hB⟩ := hrel
        clear hbx
        obtain ⟨x0, x1, x2⟩ := hX.cells
        have hXl := hX.lt
        have f0 := hX.fz 0
        have f1 := hX.fz 1
        have f2 := hX.fz 2
        by_cases hlt : k < s.size
        · exfalso; omega
        · have hki : ¬ (k : Int) < (s.size : Int) := by omega
          have HF : Hid (R = none) := by show _ = _; rw [← hr]; exact opAt_end s k (by omega)
          clear hr
          obtain ⟨hbS, hgS⟩ := hX.set init
          obtain ⟨c0, c1, c2⟩ := hbS.cells
          have hBS := hB.grown hgS hB.size (fun j e => by cases e; exact Nat.le_refl _)
          clear hbS hgS
          go_wp2_with fail
          rw [HF.out]
          refine bodyPost_ret (v := .tuple #[opAgg init, .bool false]) ?_ rfl ⟨init, rfl, (fun p e => nomatch e), word_small ⟨by simp, by simp⟩ (Nat.zero_le _) (Nat.zero_le _), hBS⟩
          simp [results, Try.results41, go_sem, opAgg, c0, c1, c2]

end Go.Proofs.Ytefjbpkomphjdaa.txts

namespace Go.Proofs.Ytefjbpkomphjdaa.txts
open Go Go.RowKit Go.Proofs.Ytefjbpkomphjdaa.base Go.Proofs.Ytefjbpkomphjdaa.pairs Go.Proofs.Ytefjbpkomphjdaa.ords
set_option linter.unusedVariables false
set_option linter.unusedSimpArgs false

def TPost (w : World) (r : Option (List Od)) (e : Ending) (w' : World) : Prop :=
  ∃ g n cp, e = .returned (.tuple #[.slice (some ⟨g, 0, none⟩) n cp, .bool r.isSome]) ∧ OwnO w' w.heap.size g n cp (r.getD []) ∧ Below w.heap.size w w'
theorem tPost_none {w w' : World} {g : Nat} (h : OwnO w' w.heap.size g 0 0 []) (hb : Below w.heap.size w w') {r : Option (List Od)} (hr : r = none) : TPost w r (.returned (.tuple #[.slice (some ⟨g, 0, none⟩) 0 0, .bool false])) w' := by
  subst hr; exact ⟨g, 0, 0, rfl, h, hb⟩
def PAt (ws : List ByteArray) (R : Option (List Od)) (acc : List Od) (k : Nat) : Prop := (allOf wordOp ((ws.drop k).map fun s => s.data.toList)).map (acc ++ ·) = R
theorem pAt_start (s : ByteArray) : PAt (wordsOf 32 s) (allOf wordOp (splitGo 32 [] s.data.toList)) [] 0 := by
  unfold PAt wordsOf
  rw [List.drop_zero, List.map_map]
  have e : ((fun s : ByteArray => s.data.toList) ∘ fun l : List UInt8 => (⟨l.toArray⟩ : ByteArray)) = id := by funext l; simp
  rw [e, List.map_id]
  cases allOf wordOp (splitGo 32 [] s.data.toList) <;> rfl
theorem pAt_none {ws : List ByteArray} {R : Option (List Od)} {acc : List Od} {k : Nat} (h : PAt ws R acc k) (hk : k < ws.length) (hn : wordOp ws[k].data.toList = none) : R = none := by
  unfold PAt at h
  rw [List.drop_eq_getElem_cons hk, List.map_cons, allOf_cons, hn] at h
  exact h.symm
theorem pAt_some {ws : List ByteArray} {R : Option (List Od)} {acc : List Od} {k : Nat} {o : Od} (h : PAt ws R acc k) (hk : k < ws.length) (hn : wordOp ws[k].data.toList = some o) : PAt ws R (acc ++ [o]) (k + 1) := by
  unfold PAt at h ⊢
  rw [List.drop_eq_getElem_cons hk, List.map_cons, allOf_cons, hn] at h
  rw [← h]
  cases allOf wordOp ((ws.drop (k + 1)).map fun s => s.data.toList) with
  | none => rfl
  | some m => simp
theorem pAt_end {ws : List ByteArray} {R : Option (List Od)} {acc : List Od} {k : Nat} (h : PAt ws R acc k) (hk : ws.length ≤ k) : R = some acc := by
  unfold PAt at h
  rw [List.drop_eq_nil_of_le hk] at h
  rw [← h]
  simp [allOf]
theorem words_count (by_ : UInt8) (l cur : List UInt8) : (splitGo by_ cur l).length ≤ l.length + 1 := by
  induction l generalizing cur with
  | nil => simp [splitGo]
  | cons c l ih =>
    rw [splitGo]
    split
    · have := ih []; simp; omega
    · have := ih (cur ++ [c]); simp; omega
theorem wordsOf_length (b : UInt8) (s : ByteArray) : (wordsOf b s).length ≤ s.size + 1 := by
  have := words_count b s.data.toList []
  rw [size_len] at this
  simpa [wordsOf] using this
theorem words_size (by_ : UInt8) (l cur : List UInt8) : ∀ w ∈ splitGo by_ cur l, w.length ≤ cur.length + l.length := by
  induction l generalizing cur with
  | nil => simp [splitGo]
  | cons c l ih =>
    rw [splitGo]
    split
    · intro w hw
      rcases List.mem_cons.1 hw with rfl | hw
      · omega
      · have := ih [] w hw; simp at this ⊢; omega
    · intro w hw
      have := ih (cur ++ [c]) w hw; simp at this ⊢; omega
theorem wordsOf_size (b : UInt8) (s : ByteArray) : ∀ x ∈ wordsOf b s, x.size ≤ s.size := by
  intro x hx
  obtain ⟨w, hw, rfl⟩ := List.mem_map.1 hx
  have := words_size b s.data.toList [] w hw
  rw [ba_size, ← size_len s]
  simpa using this
theorem wordOp_size {l : List UInt8} {o : Od} (h : wordOp l = some o) : o.2.1.size ≤ l.length := by
  have ht := (word_text l o h).1
  rw [← ht, odText]
  have := size_len o.2.1
  split
  · simp only [List.length_append, List.length_cons]; omega
  · split
    · simp only [List.length_cons]; omega
    · simp only [List.length_append, List.length_cons]; omega

theorem own_ne {w : World} {b1 b2 g n c n' c' : Nat} {l : List Od} {ss : List ByteArray} (h : OwnO w b1 g n c l) (h2 : OwnS w b2 g n' c' ss) : False := by
  obtain ⟨_, _, cur, e⟩ := h2.cases
  rcases h.2.2.2 with ⟨h', _⟩ | ⟨g', cap', cur', h', _, hg, _⟩
  · simp at h'
  · simp only [Value.slice.injEq, Option.some.injEq, Addr.mk.injEq, and_true, true_and] at h'
    obtain ⟨rfl, rfl⟩ := h'
    rw [hg] at e
    simp at e
set_option maxRecDepth 100000 in
set_option maxHeartbeats 4000000 in
theorem spec_parse (s : ByteArray) (w : World) (hs : s.size ≤ 1099511627776) :
    Calls Try.prog 16 #[.string s] w fun e w' => TPost w (parseOps s.data.toList) e w' := by
  have HP : Hid (∀ R, allOf wordOp (splitGo 32 [] s.data.toList) = R → parseOps s.data.toList = R.bind onlyOk) := by rintro R rfl; rfl
  have hst := pAt_start s
  generalize allOf wordOp (splitGo 32 [] s.data.toList) = R at *
  have HPR := Hid.mk' (HP.out R rfl)
  clear HP
  have hwl := wordsOf_length 32 s
  have hws := wordsOf_size 32 s
  have HSP := fun W => spec_split s 32 32 W rfl hs
  generalize wordsOf 32 s = ws at *
  have HST := Hid.mk' hst
  have HSP := Hid.mk' HSP
  have HWS := Hid.mk' hws
  clear hst hws
  obtain ⟨i0, hif, hz0, hz1, hz2⟩ := info_parts infoO
  go_enter Try.func16, Try.ntmps16
  go_wp2_with fail
  refine (HSP.out _).mono ?_
  rintro e w1 ⟨gw, nw, cw, rfl, hW, hB1⟩
  have hO1 := (ownO_made w w.heap.size (Nat.le_refl _)).below hB1
  have hba : Below w.heap.size w (w.alloc (.cells #[] 53)) := (Below.refl _ _).alloc (Nat.le_refl _) _
  have hB2 := hba.trans (hB1.mono hba.size)
  have hW2 := hW.mono hba.size
  have hnw := hW.1
  clear hB1 hba hW
  go_wp2_with fail
  go_loopw [4, 6] (fun o i wr => ∃ (k g n cp : Nat) (acc : List Od), o = .slice (some ⟨g, 0, none⟩) n cp ∧ i = .int .i64 (k : Int) ∧ k ≤ ws.length ∧ n ≤ k ∧ OwnO wr w.heap.size g n cp acc ∧ OwnS wr w.heap.size gw nw cw ws ∧ Below w.heap.size w wr ∧ PAt ws R acc k ∧ (∀ p ∈ acc, p.2.1.size ≤ 1099511627776)) (fun o i _ => ws.length - (intOf i).toNat)
  case atStart => exact ⟨0, w.heap.size, 0, 0, [], rfl, rfl, by omega, by omega, hO1, hW2, hB2, HST.out, fun p hp => absurd hp List.not_mem_nil⟩
  case round =>
    obtain ⟨k, g, n, cp, acc, rfl, rfl, hk, hnk, hO, hW, hB, hp, hks⟩ := hrel
    clear HST hO1 hB2 hW2
    have HPA := Hid.mk' hp
    have HKS := Hid.mk' hks
    clear hp hks
    by_cases hlt : k < ws.length
    · have hki : (k : Int) < (nw : Int) := by omega
      have hcw := hW.at k hlt
      have hfk := HWS.out _ (List.getElem_mem hlt)
      have hc3 : n + 1 ≤ maxLen := by unfold maxLen; omega
      have hc4 : (n + 1) * 40 ≤ 140737488355328 := by omega
      cases hw : wordOp ws[k].data.toList with
      | none =>
        have HF := Hid.mk' (pAt_none HPA.out hlt hw)
        have HW := fun W => spec_word ws[k] W (by omega)
        rw [hw] at HW
        have HW := Hid.mk' HW
        clear hw
        generalize ws[k] = x at *
        go_wp2_with fail
        refine (HW.out _).mono ?_
        rintro e w2 ⟨o, rfl, _, _, hB2⟩
        have hB3 := hB.trans (hB2.mono hB.size)
        clear hB2 hB hO hW
        have HB4 := Hid.mk' ((hB3.alloc hB3.size (.cells #[.int .i64 o.1, .string o.2.1, .string o.2.2] 53)).alloc (Nat.le_trans hB3.size (by simp)) (.cells #[] 53))
        unfold opAgg
        go_wp2_with fail
        go_ret2
        have hm := ownO_made (w2.alloc (.cells #[.int .i64 o.1, .string o.2.1, .string o.2.2] 53)) w.heap.size (Nat.le_trans hB3.size (by simp))
        rw [World.size_alloc] at hm
        exact tPost_none (r := parseOps s.data.toList) hm HB4.out (by rw [HPR.out, HF.out]; rfl)
      | some o' =>
        have HN := Hid.mk' (pAt_some HPA.out hlt hw)
        have HZ : Hid (o'.2.1.size ≤ 1099511627776) := by show _ ≤ _; have := wordOp_size hw; rw [size_len] at this; omega
        have HW := fun W => spec_word ws[k] W (by omega)
        rw [hw] at HW
        have HW := Hid.mk' HW
        clear hw
        generalize ws[k] = x at *
        go_wp2_with fail
        refine (HW.out _).mono ?_
        rintro e w2 ⟨o, rfl, ho, hsm, hB2⟩
        obtain rfl := ho o' rfl
        clear ho
        have hbx := boxT_new w2 o
        have hba : Below w2.heap.size w2 (w2.alloc (.cells #[.int .i64 o.1, .string o.2.1, .string o.2.2] 53)) := (Below.refl _ _).alloc (Nat.le_refl _) _
        have hbb := hB2.trans (hba.mono hB2.size)
        have hO4 := hO.below hbb
        have hW4 := hW.below hbb
        have hB4 := hB.trans (hbb.mono hB.size)
        have hbw := hB4.size
        clear hO hW hB hB2 hba hbb
        obtain ⟨c0, c1, c2⟩ := hbx.cells
        have hsz : (w2.alloc (.cells #[.int .i64 o.1, .string o.2.1, .string o.2.2] 53)).heap.size = w2.heap.size + 1 := by simp
        have hcl := one_ord_cells (w2.alloc (.cells #[.int .i64 o.1, .string o.2.1, .string o.2.2] 53)) o 53
        rw [hsz] at hcl
        have HCL := Hid.mk' hcl
        clear hcl hsz
        unfold opAgg
        go_wp2_with (at_builtin; refine wpList_append_own _ rfl _ _ 24 rfl w.heap.size 53 i0 (.agg #[.int .i64 0, .string ⟨#[]⟩, .string ⟨#[]⟩]) 3 40 Try.underlying24 hif hz0 hz1 hz2 rfl (by decide) _ _ _ rfl (hO4.2.2.alloc _) ⟨w2.heap.size + 1, 0, none⟩ 1 1 (ordVals [o]) rfl rfl HCL.out (ordVals_oneCell _) hc3 hc4 (le_alloc _ _ hbw) ?_)
        intro v5 w5 hown hgrow hnn
        obtain ⟨g5, cp5, hv, hO5⟩ := ownO_app hO4.1 hO4.2.1 hsm hnn hown
        subst hv
        have hg5 : ((w2.alloc (.cells #[.int .i64 o.1, .string o.2.1, .string o.2.2] 53)).alloc (.cells #[.int .i64 o.1, .string o.2.1, .string o.2.2] 53)).grownBy w5 (some g) := hgrow
        have hgl := hO4.lt
        have hB5 : Below w.heap.size w w5 := (hB4.alloc hbw _).grown hg5 (le_alloc _ _ hbw) (fun k e => by cases e; exact hgl.1)
        have hW5 := (hW4.below ((Below.refl _ _).alloc (Nat.le_refl _) (.cells #[.int .i64 o.1, .string o.2.1, .string o.2.2] 53))).grown hg5 (by intro e; cases e; exact own_ne hO4 hW4)
        have HO5 := Hid.mk' hO5
        have HW5 := Hid.mk' hW5
        clear hown hgrow hnn hO4 hO5 hB4 hW4 hW5 hg5 hgl
        go_wp2_with fail
        go_roundw
        case rel =>
          refine ⟨k + 1, g5, n + 1, cp5, acc ++ [o], rfl, by go_num, by omega, by omega, HO5.out, HW5.out, hB5, HN.out, fun p hp => ?_⟩
          rcases List.mem_append.1 hp with h1 | h1
          · exact HKS.out p h1
          · rcases List.mem_singleton.1 h1 with rfl
            exact HZ.out
        case measure => simp [intOf]; omega
    · have hki : ¬ (k : Int) < (nw : Int) := by omega
      have HR := Hid.mk' (pAt_end HPA.out (by omega))
      have HOK := fun W (h : OwnO W w.heap.size g n cp acc) => spec_opsOk g 0 n cp acc W h.sl HKS.out
      cases hq : opsOk acc
      · rw [hq] at HOK
        have HOK := Hid.mk' HOK
        have HF : Hid (parseOps s.data.toList = none) := by show _ = _; rw [HPR.out, HR.out]; simp [onlyOk, hq]
        clear hq hW
        go_wp2_with fail
        refine (HOK.out _ hO).mono ?_
        rintro e w2 ⟨rfl, hB2⟩
        have hB3 := hB.trans (hB2.mono hB.size)
        clear hB2 hB hO
        go_wp2_with fail
        go_ret2
        exact tPost_none (r := parseOps s.data.toList) (ownO_made _ _ hB3.size) (hB3.alloc hB3.size _) HF.out
      · rw [hq] at HOK
        have HOK := Hid.mk' HOK
        have HF : Hid (parseOps s.data.toList = some acc) := by show _ = _; rw [HPR.out, HR.out]; simp [onlyOk, hq]
        clear hq hW
        go_wp2_with fail
        refine (HOK.out _ hO).mono ?_
        rintro e w2 ⟨rfl, hB2⟩
        have hB3 := hB.trans (hB2.mono hB.size)
        have HO3 := Hid.mk' (hO.below hB2)
        clear hB2 hB hO
        go_wp2_with fail
        go_ret2
        show TPost w (parseOps s.data.toList) _ _
        rw [HF.out]
        exact ⟨g, n, cp, rfl, HO3.out, hB3⟩

end Go.Proofs.Ytefjbpkomphjdaa.txts
