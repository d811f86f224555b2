/- The specification's orders: what is right, what is met. The specification's orders: all of them are right. hash walks The specification's orders: what is met, what is done, at which shard. The specification's orders: what is done, and those of a shard. The specification's shards of orders. The specification's places of choices and jobs; a box of one who decides. -/
import Derived.Test.YteniflajiklffaaShab
import Derived.Test.YteniflajiklffaaRows
import Derived.Test.YteniflajiklffaaShaa
namespace Go.Proofs.Yteniflajiklffaa.ords
open Go Go.RowKit Go.Proofs.Yteniflajiklffaa.base Go.Proofs.Yteniflajiklffaa.pairs
set_option linter.unusedVariables false
set_option linter.unusedSimpArgs false

set_option maxHeartbeats 400000 in
theorem s_inZ (x a b : Int) (w : World) :
    Calls Try.prog 63 #[.int .i64 x, .int .i64 a, .int .i64 b] w fun e w' => e = .returned (.bool (decide (a ≤ x ∧ x ≤ b))) ∧ w' = w := by
  by_cases h1 : a ≤ x
  · by_cases h2 : x ≤ b
    · go_enter Try.func63, Try.ntmps63
      go_wp2
      go_ret
      exact ⟨ret_bool (by simp [h1, h2]), rfl⟩
    · go_enter Try.func63, Try.ntmps63
      go_wp2
      go_ret
      exact ⟨ret_bool (by simp [h1, h2]), rfl⟩
  · go_enter Try.func63, Try.ntmps63
    go_wp2
    go_ret
    exact ⟨ret_bool (by have h3 : ¬ a ≤ x := by omega
                        simp [h3]), rfl⟩

theorem size_empty {v : ByteArray} (h : v.size = 0) : v = ⟨#[]⟩ := by
  apply bytes_ext; exact List.eq_nil_of_length_eq_zero (by rw [Array.length_toList]; exact h)
theorem not_empty {v : ByteArray} (h : ¬ v.size = 0) : ¬ v.toList = [] ∧ v.toList.isEmpty = false := by
  have hq : ¬ v.toList = [] := fun e => h (by have : v = ⟨#[]⟩ := bytes_ext (by rw [← ByteArray.toList_eq]; exact e)
                                              rw [this]; rfl)
  exact ⟨hq, by rw [Bool.eq_false_iff]; intro e; exact hq (List.isEmpty_iff.1 e)⟩

set_option maxRecDepth 100000 in
set_option maxHeartbeats 1000000 in
theorem spec_l7Op (o : Od) (w : World) (ho : smallO o) (hs : o.2.1.size ≤ 1099511627776) :
    Calls Try.prog 103 #[.agg #[.int .i64 o.1, .string o.2.1, .string o.2.2]] w fun e w' => e = .returned (.bool (odOk o)) ∧ Below w.heap.size w w' := by
  obtain ⟨z, k, v⟩ := o
  have h2 := ho.2.2
  simp only [] at h2 hs ⊢
  unfold maxLen at h2
  have hba : Below w.heap.size w (w.alloc (.cells #[.int .i64 z, .string k, .string v] 111)) := (Below.refl _ _).alloc (Nat.le_refl _) _
  have hin := s_inZ z 1 3 (w.alloc (.cells #[.int .i64 z, .string k, .string v] 111))
  have hk := spec_keyOk k (w.alloc (.cells #[.int .i64 z, .string k, .string v] 111)) hs
  generalize hK : keyOk k = K at hk
  have H1 := Hid.mk' hK
  have HK := Hid.mk' hk
  clear hk hK ho
  by_cases hz : 1 ≤ z ∧ z ≤ 3
  · rw [decide_eq_true hz] at hin
    have HI := Hid.mk' hin
    clear hin
    by_cases hz2 : z = 2
    · subst hz2
      by_cases hv : v.size = 0
      · obtain rfl := size_empty hv
        clear hz hv
        go_enter Try.func103, Try.ntmps103
        go_wp2_with fail
        refine HI.out.mono ?_
        rintro e w1 ⟨rfl, rfl⟩
        go_wp2_with fail
        refine HK.out.mono ?_
        rintro e w1 ⟨rfl, rfl⟩
        cases K
        all_goals
          go_wp2_with fail
          go_ret
          exact ⟨ret_bool (by unfold odOk; rw [H1.out]; rfl), hba⟩
      · have HV := Hid.mk' hv
        obtain ⟨hq, hq2⟩ := not_empty hv
        clear hz hv
        go_enter Try.func103, Try.ntmps103
        go_wp2_with fail
        refine HI.out.mono ?_
        rintro e w1 ⟨rfl, rfl⟩
        go_wp2_with fail
        go_ret
        exact ⟨ret_bool (by have := HV.out; unfold odOk; simp [this]), hba⟩
    · have HZ := Hid.mk' hz
      have HZ2 := Hid.mk' hz2
      have hb : (z == 2) = false := beq_eq_false_iff_ne.2 hz2
      clear hz hz2
      go_enter Try.func103, Try.ntmps103
      go_wp2_with fail
      refine HI.out.mono ?_
      rintro e w1 ⟨rfl, rfl⟩
      go_wp2_with fail
      refine HK.out.mono ?_
      rintro e w1 ⟨rfl, rfl⟩
      cases K
      all_goals
        go_wp2_with fail
        go_ret
        exact ⟨ret_bool (by have a := HZ.out; have b := HZ2.out; unfold odOk; rw [H1.out]; simp [a, b]; try omega), hba⟩
  · rw [decide_eq_false hz] at hin
    have HI := Hid.mk' hin
    have HZ := Hid.mk' hz
    clear hin hz
    go_enter Try.func103, Try.ntmps103
    go_wp2_with fail
    refine HI.out.mono ?_
    rintro e w1 ⟨rfl, rfl⟩
    go_wp2_with fail
    go_ret
    exact ⟨ret_bool (by unfold odOk; rw [decide_eq_false HZ.out]; rfl), hba⟩

end Go.Proofs.Yteniflajiklffaa.ords

namespace Go.Proofs.Yteniflajiklffaa.ords
open Go Go.RowKit Go.Proofs.Yteniflajiklffaa.base Go.Proofs.Yteniflajiklffaa.pairs
set_option linter.unusedVariables false
set_option linter.unusedSimpArgs false

def prevO (l : List Od) (k : Nat) : Option ByteArray := if k = 0 then none else (l[k - 1]?).map (·.2.1)
theorem opsFrom_zero (l : List Od) (k : Nat) (h : k < l.length) (h0 : k = 0) : opsFrom (prevO l k) (l.drop k) = (odOk l[k] && opsFrom (prevO l (k + 1)) (l.drop (k + 1))) := by
  subst h0
  cases l with
  | nil => simp at h
  | cons p l => simp [prevO, opsFrom]
theorem opsFrom_step (l : List Od) (k : Nat) (h : k < l.length) (h0 : 0 < k) : opsFrom (prevO l k) (l.drop k) = (odOk l[k] && ltB l[k - 1].2.1 l[k].2.1 && opsFrom (prevO l (k + 1)) (l.drop (k + 1))) := by
  have e1 : prevO l k = some l[k - 1].2.1 := by unfold prevO; rw [if_neg (by omega), List.getElem?_eq_getElem (by omega)]; rfl
  have e2 : prevO l (k + 1) = some l[k].2.1 := by unfold prevO; rw [if_neg (by omega), Nat.add_sub_cancel, List.getElem?_eq_getElem h]; rfl
  rw [e1, e2, List.drop_eq_getElem_cons h, opsFrom]

set_option maxRecDepth 100000 in
set_option maxHeartbeats 2000000 in
theorem spec_opsOk (b off len cap : Nat) (l : List Od) (w : World) (h : SlO w (some ⟨b, off, none⟩) len l) (hks : ∀ p ∈ l, p.2.1.size ≤ 1099511627776) :
    Calls Try.prog 66 #[.slice (some ⟨b, off, none⟩) len cap] w fun e w' => e = .returned (.bool (opsOk l)) ∧ Below w.heap.size w w' := by
  have hl := h.1
  have hm := h.2.1
  have hsm := h.2.2.1
  subst hl
  unfold maxLen at hm
  generalize hR : opsFrom none l = R
  have HR := Hid.mk' hR
  clear hR
  go_enter Try.func66, Try.ntmps66
  go_wp2_with fail
  go_loopw [3] (fun i wr => ∃ k : Nat, k ≤ l.length ∧ i = .int .i64 (k : Int) ∧ opsFrom (prevO l k) (l.drop k) = R ∧ Below w.heap.size w wr) (fun i _ => l.length - (intOf i).toNat)
  case atStart => exact ⟨0, Nat.zero_le _, rfl, HR.out, Below.refl _ _⟩
  case round =>
    obtain ⟨k, hk, rfl, hr, hB⟩ := hrel
    by_cases hlt : k < l.length
    · have hS := h.below hB
      obtain ⟨c0, c1, c2⟩ := hS.cells k hlt
      have hbl := hS.lt (by omega)
      have hpk := hsm _ (List.getElem_mem hlt)
      have hks' := hks _ (List.getElem_mem hlt)
      have hki : (k : Int) < (l.length : Int) := by omega
      have hbd : b < wr.drew.heap.size := hbl
      by_cases h0 : k = 0
      · have hst := opsFrom_zero l k hlt h0
        rw [hr] at hst
        have hk0 : ¬ (0 : Int) < (k : Int) := by omega
        have hk1 : decide (0 < k) = false := by simp; omega
        have hk2 : decide ((0 : Int) < (k : Int)) = false := by simp; omega
        cases hP : odOk l[k]
        · have HF : Hid (R = false) := by rw [hP] at hst; exact hst
          have HP := Hid.mk' hP
          clear hst hr hP hS h0
          generalize l[k] = p at *
          have o0 := last.On.cell c0 hbl
          have o1 := last.On.cell c1 hbl
          have o2 := last.On.cell c2 hbl
          go_wp2_with fail
          have hinh := last.On.inh wr.heap.size wr
          have hcall : ∀ x : last.On wr.heap.size wr, Calls Try.prog 103 #[.agg #[.int .i64 p.1, .string p.2.1, .string p.2.2]] x.w fun e w' => e = .returned (.bool false) ∧ ∃ y : last.On wr.heap.size wr, w' = y.w := fun x => last.Calls.on x (Nat.le_refl _) (by have := spec_l7Op p x.w hpk hks'; rw [HP.out] at this; exact this)
          refine last.wp_region_on wr.heap.size (by kernel_rfl) (by kernel_rfl) ?_
          repeat (go_big_quiet_step ((go_at_call 103; exact hcall _)))
          refine wpQuiet_nil ?_
          intro w5 hw5
          obtain ⟨x5, hw5⟩ := hw5
          subst hw5
          have hB5 : Below w.heap.size w x5.w := hB.trans (x5.2.mono hB.size)
          go_wp2_with fail
          go_ret
          exact ⟨ret_bool (by unfold opsOk; rw [HR.out, HF.out]; rfl), hB5⟩
        · have HF : Hid (opsFrom (prevO l (k + 1)) (l.drop (k + 1)) = R) := by show _ = _; rw [hP] at hst; simpa using hst.symm
          have HP := Hid.mk' hP
          clear hst hr hP hS h0
          generalize l[k] = p at *
          have o0 := last.On.cell c0 hbl
          have o1 := last.On.cell c1 hbl
          have o2 := last.On.cell c2 hbl
          go_wp2_with fail
          have hinh := last.On.inh wr.heap.size wr
          have hcall : ∀ x : last.On wr.heap.size wr, Calls Try.prog 103 #[.agg #[.int .i64 p.1, .string p.2.1, .string p.2.2]] x.w fun e w' => e = .returned (.bool true) ∧ ∃ y : last.On wr.heap.size wr, w' = y.w := fun x => last.Calls.on x (Nat.le_refl _) (by have := spec_l7Op p x.w hpk hks'; rw [HP.out] at this; exact this)
          refine last.wp_region_on wr.heap.size (by kernel_rfl) (by kernel_rfl) ?_
          repeat (go_big_quiet_step ((go_at_call 103; exact hcall _)))
          refine wpQuiet_nil ?_
          intro w5 hw5
          obtain ⟨x5, hw5⟩ := hw5
          subst hw5
          have hB5 : Below w.heap.size w x5.w := hB.trans (x5.2.mono hB.size)
          go_wp2_with fail
          go_roundw
          case rel => exact ⟨k + 1, by omega, by go_num, HF.out, hB5⟩
          case measure => simp [intOf]; omega
      · have hst := opsFrom_step l k hlt (by omega)
        rw [hr] at hst
        have hk0 : (0 : Int) < (k : Int) := by omega
        have hk1 : decide (0 < k) = true := by simp; omega
        have hk2 : decide ((0 : Int) < (k : Int)) = true := by simp; omega
        have c3 := (hS.cells (k - 1) (by omega)).2.1
        obtain ⟨j, hj⟩ : ∃ j, k - 1 = j := ⟨_, rfl⟩
        have hjw : (k : Int) - 1 = (j : Int) := by omega
        have hjk : (j : Int) < (l.length : Int) := by omega
        generalize l[k - 1].2.1 = q at *
        rw [hj] at c3
        have o3 := last.On.cell c3 hbl
        cases hP : odOk l[k]
        · have HF : Hid (R = false) := by rw [hP] at hst; exact hst
          have HP := Hid.mk' hP
          clear hst hr hP hS h0 hj
          generalize l[k] = p at *
          have o0 := last.On.cell c0 hbl
          have o1 := last.On.cell c1 hbl
          have o2 := last.On.cell c2 hbl
          go_wp2_with fail
          have hinh := last.On.inh wr.heap.size wr
          have hcall : ∀ x : last.On wr.heap.size wr, Calls Try.prog 103 #[.agg #[.int .i64 p.1, .string p.2.1, .string p.2.2]] x.w fun e w' => e = .returned (.bool false) ∧ ∃ y : last.On wr.heap.size wr, w' = y.w := fun x => last.Calls.on x (Nat.le_refl _) (by have := spec_l7Op p x.w hpk hks'; rw [HP.out] at this; exact this)
          refine last.wp_region_on wr.heap.size (by kernel_rfl) (by kernel_rfl) ?_
          repeat (go_big_quiet_step ((go_at_call 103; exact hcall _)))
          refine wpQuiet_nil ?_
          intro w5 hw5
          obtain ⟨x5, hw5⟩ := hw5
          subst hw5
          have hB5 : Below w.heap.size w x5.w := hB.trans (x5.2.mono hB.size)
          go_wp2_with fail
          go_ret
          exact ⟨ret_bool (by unfold opsOk; rw [HR.out, HF.out]; rfl), hB5⟩
        · cases hL : ltB q l[k].2.1
          · have HF : Hid (R = false) := by show _ = _; rw [hP, hL] at hst; simpa using hst
            have HP := Hid.mk' hP
            have hl2 : Op.bytesLess q.toList l[k].2.1.toList = false := hL
            clear hst hr hP hS h0 hj hL
            generalize l[k] = p at *
            have o0 := last.On.cell c0 hbl
            have o1 := last.On.cell c1 hbl
            have o2 := last.On.cell c2 hbl
            go_wp2_with fail
            have hinh := last.On.inh wr.heap.size wr
            have hcall : ∀ x : last.On wr.heap.size wr, Calls Try.prog 103 #[.agg #[.int .i64 p.1, .string p.2.1, .string p.2.2]] x.w fun e w' => e = .returned (.bool true) ∧ ∃ y : last.On wr.heap.size wr, w' = y.w := fun x => last.Calls.on x (Nat.le_refl _) (by have := spec_l7Op p x.w hpk hks'; rw [HP.out] at this; exact this)
            refine last.wp_region_on wr.heap.size (by kernel_rfl) (by kernel_rfl) ?_
            repeat (go_big_quiet_step ((go_at_call 103; exact hcall _)))
            refine wpQuiet_nil ?_
            intro w5 hw5
            obtain ⟨x5, hw5⟩ := hw5
            subst hw5
            have hB5 : Below w.heap.size w x5.w := hB.trans (x5.2.mono hB.size)
            go_wp2_with fail
            go_ret
            exact ⟨ret_bool (by unfold opsOk; rw [HR.out, HF.out]; rfl), hB5⟩
          · have HF : Hid (opsFrom (prevO l (k + 1)) (l.drop (k + 1)) = R) := by show _ = _; rw [hP, hL] at hst; simpa using hst.symm
            have HP := Hid.mk' hP
            have hl2 : Op.bytesLess q.toList l[k].2.1.toList = true := hL
            clear hst hr hP hS h0 hj hL
            generalize l[k] = p at *
            have o0 := last.On.cell c0 hbl
            have o1 := last.On.cell c1 hbl
            have o2 := last.On.cell c2 hbl
            go_wp2_with fail
            have hinh := last.On.inh wr.heap.size wr
            have hcall : ∀ x : last.On wr.heap.size wr, Calls Try.prog 103 #[.agg #[.int .i64 p.1, .string p.2.1, .string p.2.2]] x.w fun e w' => e = .returned (.bool true) ∧ ∃ y : last.On wr.heap.size wr, w' = y.w := fun x => last.Calls.on x (Nat.le_refl _) (by have := spec_l7Op p x.w hpk hks'; rw [HP.out] at this; exact this)
            refine last.wp_region_on wr.heap.size (by kernel_rfl) (by kernel_rfl) ?_
            repeat (go_big_quiet_step ((go_at_call 103; exact hcall _)))
            refine wpQuiet_nil ?_
            intro w5 hw5
            obtain ⟨x5, hw5⟩ := hw5
            subst hw5
            have hB5 : Below w.heap.size w x5.w := hB.trans (x5.2.mono hB.size)
            go_wp2_with fail
            go_roundw
            case rel => exact ⟨k + 1, by omega, by go_num, HF.out, hB5⟩
            case measure => simp [intOf]; omega
    · have HF : Hid (R = true) := by show _ = _; rw [← hr, List.drop_eq_nil_of_le (by omega)]; cases prevO l k <;> rfl
      clear hr
      go_wp2_with fail
      refine (s_inZ (l.length : Int) 1 8 _).mono ?_
      rintro e w9 ⟨rfl, rfl⟩
      go_wp2_with fail
      go_ret
      exact ⟨ret_bool (by unfold opsOk; rw [HR.out, HF.out, Bool.true_and]; have e : (1 ≤ (l.length : Int) ∧ (l.length : Int) ≤ 8) ↔ (1 ≤ l.length ∧ l.length ≤ 8) := by omega
                          rw [← Bool.decide_and]; exact decide_eq_decide.2 e), hB⟩

end Go.Proofs.Yteniflajiklffaa.ords

namespace Go.Proofs.Yteniflajiklffaa.hash
open Go.RowKit Go.Proofs.Yteniflajiklffaa.base
set_option linter.unusedVariables false
set_option linter.unusedSimpArgs false

set_option maxHeartbeats 400000 in
theorem spec_hash (s : ByteArray) (w : World) (hs : s.size ≤ maxLen) :
    Calls Try.prog 143 #[.string s] w fun e w' => e = .returned (.int .i64 (hashOf s.data.toList)) ∧ w' = w := by
  unfold maxLen at hs
  go_enter Try.func143, Try.ntmps143
  go_wp2
  go_loop [3, 4] (fun h i => ∃ k : Nat, k ≤ s.size ∧ i = .int .i64 k ∧ h = .int .i64 (hashOf (s.data.toList.take k))) (fun _ i => s.size - (intOf i).toNat)
  case atStart => exact ⟨0, Nat.zero_le _, rfl, rfl⟩
  case round =>
    obtain ⟨k, hk, rfl, rfl⟩ := hrel
    have hd := hashOf_lt (s.data.toList.take k)
    by_cases hlt : k < s.size
    · have HS : Hid (hashOf (s.data.toList.take (k + 1)) = hstep (hashOf (s.data.toList.take k)) s[k].toNat) := by rw [take_snoc s k hlt]; exact hashOf_snoc _ _
      go_wp2
      have hb : s[k].toNat < 256 := s[k].toNat_lt
      go_round
      case rel =>
        refine ⟨k + 1, by omega, by go_num, ?_⟩
        rw [HS.out, IntWalk.wrap64_in (s[k].toNat : Int) (by omega)]
        exact val_int (i64_step' _ _ hd hb)
      case measure => simp [intOf]; omega
    · go_wp2
      go_ret
      exact ⟨ret_int (by rw [List.take_of_length_le (by simp; omega)]), rfl⟩

set_option maxHeartbeats 400000 in
theorem impl_hash (s : ByteArray) (w : World) (hs : s.size ≤ maxLen) :
    Calls Try.prog 105 #[.string s] w fun e w' => e = .returned (.int .i64 (hashOf s.data.toList)) ∧ Below w.heap.size w w' := by
  unfold maxLen at hs
  have hconv := Lib.run_convert_string_bytes (P := Try.prog) w 9 22 5 s Try.underlying9 Try.underlying22 Try.underlying5
  go_enter Try.func105, Try.ntmps105
  go_wp2
  go_loop [3, 9] (fun h i => ∃ k : Nat, k ≤ s.size ∧ i = .int .i64 k ∧ h = .int .u32 (hashOf (s.data.toList.take k))) (fun _ i => s.size - (intOf i).toNat)
  case atStart => exact ⟨0, Nat.zero_le _, rfl, rfl⟩
  case round =>
    obtain ⟨k, hk, rfl, rfl⟩ := hrel
    have hd := hashOf_lt (s.data.toList.take k)
    by_cases hlt : k < s.size
    · have HS : Hid (hashOf (s.data.toList.take (k + 1)) = hstep (hashOf (s.data.toList.take k)) s[k].toNat) := by rw [take_snoc s k hlt]; exact hashOf_snoc _ _
      have hcell : (Lib.bytesWorld w 5 s).cell? ⟨w.heap.size, k, none⟩ = some (.int .u8 s[k].toNat) := by
        rw [Lib.bytesWorld_cell w 5 s k hlt]; simp [List.getD, hlt]; rfl
      go_wp2
      have hb : s[k].toNat < 256 := s[k].toNat_lt
      go_round
      case rel =>
        refine ⟨k + 1, by omega, by go_num, ?_⟩
        rw [HS.out]
        refine val_int ?_
        rw [← u32_step _ _ hd hb, IntKind.wrap_u32, Int.emod_eq_of_lt (a := (s[k].toNat : Int)) (by omega) (by omega)]
      case measure => simp [intOf]; omega
    · go_wp2
      go_ret
      exact ⟨ret_int (by rw [List.take_of_length_le (by simp; omega)]), below_bytesWorld _ _ _⟩
end Go.Proofs.Yteniflajiklffaa.hash

namespace Go.Proofs.Yteniflajiklffaa.ords
open Go Go.RowKit Go.Proofs.Yteniflajiklffaa.base Go.Proofs.Yteniflajiklffaa.pairs
set_option linter.unusedVariables false
set_option linter.unusedSimpArgs false

set_option maxHeartbeats 400000 in
theorem spec_shardOf (key : ByteArray) (n : Int) (w : World) (hs : key.size ≤ maxLen) (hn : (Lit.int .i64 n).wf = true) :
    Calls Try.prog 130 #[.string key, .int .i64 n] w fun e w' => e = .returned (.int .i64 (shardOf key n)) ∧ w' = w := by
  have hH := hashOf_lt key.data.toList
  have HC := Hid.mk' (hash.spec_hash key w hs)
  unfold shardOf
  generalize hashOf key.data.toList = H at *
  by_cases h1 : n < 1
  · rw [if_pos h1]
    go_enter Try.func130, Try.ntmps130
    go_wp2_with fail
    go_ret
    exact ⟨rfl, rfl⟩
  · rw [if_neg h1]
    have h2 : Int.tmod (H : Int) n = (H : Int) % n := Int.tmod_eq_emod_of_nonneg (by omega)
    have h3 : 0 ≤ (H : Int) % n := Int.emod_nonneg _ (by omega)
    have h4 : (H : Int) % n ≤ 4294967296 := by
      have h5 := Int.emod_add_ediv_mul (H : Int) n
      have h6 : 0 ≤ (H : Int) / n * n := Int.mul_nonneg (Int.ediv_nonneg (by omega) (by omega)) (by omega)
      omega
    generalize (H : Int) % n = R at *
    go_enter Try.func130, Try.ntmps130
    go_wp2_with fail
    refine HC.out.mono ?_
    rintro e w1 ⟨rfl, rfl⟩
    go_wp2_with fail
    go_ret
    exact ⟨rfl, rfl⟩

end Go.Proofs.Yteniflajiklffaa.ords

namespace Go.Proofs.Yteniflajiklffaa.ords
open Go Go.RowKit Go.Proofs.Yteniflajiklffaa.base Go.Proofs.Yteniflajiklffaa.pairs
set_option linter.unusedVariables false
set_option linter.unusedSimpArgs false

theorem take_snocO' (l : List Od) (k : Nat) (h : k < l.length) : l.take (k + 1) = l.take k ++ [l[k]] := List.take_succ_eq_append_getElem h
theorem filter_snocO (f : Od → Bool) (l : List Od) (k : Nat) (h : k < l.length) : (l.take (k + 1)).filter f = (l.take k).filter f ++ if f l[k] then [l[k]] else [] := by
  rw [take_snocO' l k h, List.filter_append]
  cases hf : f l[k] <;> simp [List.filter_cons, hf]
theorem cells_three (w : World) (v1 v2 v3 : Value) (t : TypeId) : ∀ j u, [v1, v2, v3][j]? = some u → (w.alloc (.cells #[v1, v2, v3] t)).cell? ((⟨w.heap.size, 0, none⟩ : Addr).add j) = some u := by
  intro j u hj
  have hl : j < 3 := by have := (List.getElem?_eq_some_iff.1 hj).1; simpa using this
  rw [Addr.add_lit]
  match j, hl with
  | 0, _ => simp at hj; subst hj; simp [go_sem]
  | 1, _ => simp at hj; subst hj; simp [go_sem]
  | 2, _ => simp at hj; subst hj; simp [go_sem]
theorem one_ord_cells (w : World) (p : Od) (t : TypeId) : ∀ j u, (ordVals [p])[j]? = some u → (w.alloc (.cells #[.int .i64 p.1, .string p.2.1, .string p.2.2] t)).cell? ((⟨w.heap.size, 0, none⟩ : Addr).add j) = some u :=
  cells_three w (.int .i64 p.1) (.string p.2.1) (.string p.2.2) t
theorem ownO_app {w' : World} {base n : Nat} {v' : Value} {l : List Od} {p : Od} (hl : l.length = n) (hs : ∀ q ∈ l, smallO q) (hp : smallO p) (h0 : ¬ v' = .slice none 0 0)
    (h : w'.ownsRow base 111 3 v' (n + 1) (ordVals l ++ ordVals [p])) : ∃ g' cap', v' = .slice (some ⟨g', 0, none⟩) (n + 1) cap' ∧ OwnO w' base g' (n + 1) cap' (l ++ [p]) := by
  rw [← ordVals_append] at h
  refine ownO_val (by simp; omega) ?_ h0 h
  intro q hq
  rcases List.mem_append.1 hq with h1 | h1
  · exact hs q h1
  · simp at h1; subst h1; exact hp

set_option maxRecDepth 100000 in
set_option maxHeartbeats 2000000 in
theorem spec_opsFor (a : Option Addr) (len cap : Nat) (l : List Od) (s n : Int) (w : World) (h : SlO w a len l) (hsz : len ≤ 1099511627776) (hn : (Lit.int .i64 n).wf = true) (hs : (Lit.int .i64 s).wf = true) :
    Calls Try.prog 104 #[.slice a len cap, .int .i64 s, .int .i64 n] w fun e w' =>
      ∃ g' n' cap', e = .returned (.slice (some ⟨g', 0, none⟩) n' cap') ∧ OwnO w' w.heap.size g' n' cap' (opsFor s n l) ∧ Below w.heap.size w w' := by
  obtain ⟨i0, hi, hz0, hz1, hz2⟩ := info_parts infoO
  have hl := h.1
  have hsm := h.2.2.1
  subst hl
  go_enter Try.func104, Try.ntmps104
  go_wp2_with (at_builtin; fail)
  go_loopw [7, 8] (fun v i wr => ∃ (k g n' cp : Nat), k ≤ l.length ∧ n' ≤ k ∧ i = .int .i64 (k : Int) ∧ v = .slice (some ⟨g, 0, none⟩) n' cp ∧ OwnO wr w.heap.size g n' cp (opsFor s n (l.take k)) ∧ Below w.heap.size w wr) (fun _ i _ => l.length - (intOf i).toNat)
  case atStart => exact ⟨0, w.heap.size, 0, 0, Nat.zero_le _, Nat.le_refl _, rfl, rfl, ownO_made w _ (Nat.le_refl _), (Below.refl _ _).alloc (Nat.le_refl _) _⟩
  case round =>
    obtain ⟨k, g, m, cp, hk, hnk, rfl, rfl, hO, hB⟩ := hrel
    have hbw : w.heap.size ≤ wr.heap.size := hB.size
    by_cases hlt : k < l.length
    · obtain ⟨b, off, ha, _⟩ := h.2.2.2 (by omega)
      subst ha
      obtain ⟨c0, c1, c2⟩ := (h.below hB).cells k hlt
      have hst := filter_snocO (fun o => decide (shardOf o.2.1 n = s)) l k hlt
      have hpk := hsm _ (List.getElem_mem hlt)
      have hki : (k : Int) < (l.length : Int) := by omega
      have HSH := Hid.mk' (spec_shardOf l[k].2.1 n wr hpk.2.1 hn)
      have hrg := shardOf_range l[k].2.1 n
      have hlg := shardOf_lt l[k].2.1 n
      by_cases he : shardOf l[k].2.1 n = s
      · have HF : Hid (opsFor s n (l.take (k + 1)) = opsFor s n (l.take k) ++ [l[k]]) := by
          show List.filter _ _ = List.filter _ _ ++ _
          rw [hst]; simp [he]
        have hc3 : m + 1 ≤ maxLen := by unfold maxLen; omega
        have hc4 : (m + 1) * 40 ≤ 140737488355328 := by omega
        rw [he] at HSH
        generalize l[k] = p at *
        clear hst he hrg hlg
        go_wp2_with (at_builtin; fail)
        refine HSH.out.mono ?_
        rintro e w1 ⟨rfl, hw1⟩
        subst hw1
        go_wp2_with (at_builtin; refine wpList_append_own _ rfl _ _ 28 rfl w.heap.size 111 i0 (.agg #[.int .i64 0, .string ⟨#[]⟩, .string ⟨#[]⟩]) 3 40 Try.underlying28 hi hz0 hz1 hz2 rfl (by decide) _ _ _ rfl (hO.2.2.alloc _) ⟨w1.heap.size, 0, none⟩ 1 1 (ordVals [p]) rfl rfl (one_ord_cells _ _ _) (ordVals_oneCell _) hc3 hc4 (le_alloc _ _ hbw) ?_)
        intro v2 w2 hown hgrow hnn
        obtain ⟨g2, cp2, hv, hO2⟩ := ownO_app hO.1 hO.2.1 hpk hnn hown
        subst hv
        have hB2 : Below w.heap.size w w2 := (hB.alloc hbw _).grown hgrow (le_alloc _ _ hbw) (fun k e => by simp [Value.ownBlock] at e; have := hO.lt; omega)
        rw [← HF.out] at hO2
        have HO2 := Hid.mk' hO2
        clear hown hgrow hnn hO2 hO hB
        go_wp2_with (at_builtin; fail)
        go_roundw
        case rel => exact ⟨k + 1, g2, m + 1, cp2, by omega, by omega, by go_num, rfl, HO2.out, hB2⟩
        case measure => simp [intOf]; omega
      · have HF : Hid (opsFor s n (l.take (k + 1)) = opsFor s n (l.take k)) := by
          show List.filter _ _ = List.filter _ _
          rw [hst]; simp [he]
        have hq : (shardOf l[k].2.1 n == s) = false := beq_eq_false_iff_ne.2 he
        generalize l[k] = p at *
        generalize shardOf p.2.1 n = sh at *
        clear hst he
        go_wp2_with (at_builtin; fail)
        refine HSH.out.mono ?_
        rintro e w1 ⟨rfl, hw1⟩
        subst hw1
        go_wp2_with (at_builtin; fail)
        go_roundw
        case rel => exact ⟨k + 1, g, m, cp, by omega, by omega, by go_num, rfl, by rw [HF.out]; exact hO, hB⟩
        case measure => simp [intOf]; omega
    · have HE : Hid (l.take k = l) := List.take_of_length_le (by omega)
      go_wp2_with (at_builtin; fail)
      go_ret
      rw [HE.out] at hO
      exact ⟨g, m, cp, rfl, hO, hB⟩
end Go.Proofs.Yteniflajiklffaa.ords

namespace Go.Proofs.Yteniflajiklffaa.ords
open Go Go.RowKit Go.Proofs.Yteniflajiklffaa.base Go.Proofs.Yteniflajiklffaa.pairs
set_option linter.unusedVariables false
set_option linter.unusedSimpArgs false

set_option maxRecDepth 100000 in
set_option maxHeartbeats 1000000 in
theorem spec_l7Has (a : Option Addr) (len cap : Nat) (zs : List Int) (n : Int) (w : World) (h : SlZ w a len zs) :
    Calls Try.prog 79 #[.slice a len cap, .int .i64 n] w fun e w' => e = .returned (.bool (decide (n ∈ zs))) ∧ w' = w := by
  obtain ⟨hl, hm, hc⟩ := h
  subst hl
  unfold maxLen at hm
  generalize hR : decide (n ∈ zs) = R
  have HR := Hid.mk' hR
  clear hR
  go_enter Try.func79, Try.ntmps79
  go_wp2
  go_loop [5] (fun i => ∃ k : Nat, k ≤ zs.length ∧ i = .int .i64 (k : Int) ∧ decide (n ∈ zs.drop k) = R) (fun i => zs.length - (intOf i).toNat)
  case atStart => exact ⟨0, Nat.zero_le _, rfl, HR.out⟩
  case round =>
    obtain ⟨k, hk, rfl, hr⟩ := hrel
    by_cases hlt : k < zs.length
    · obtain ⟨b, off, ha, hcl⟩ := hc (by omega)
      subst ha
      have c1 := hcl k hlt
      have hki : (k : Int) < (zs.length : Int) := by omega
      rw [List.drop_eq_getElem_cons hlt] at hr
      generalize zs[k] = z at *
      by_cases he : z = n
      · have HF : Hid (R = true) := by show _ = _; rw [← hr, he]; simp
        subst he
        have hq : (z == z) = true := beq_self_eq_true _
        clear hr hcl hc
        go_wp2
        go_ret
        exact ⟨ret_bool HF.out.symm, rfl⟩
      · have HF : Hid (decide (n ∈ zs.drop (k + 1)) = R) := by
          show _ = _
          rw [← hr]
          have : ¬ n = z := fun e => he e.symm
          simp [this]
        have hq : (z == n) = false := beq_eq_false_iff_ne.2 he
        clear hr hcl hc he
        go_wp2
        go_round
        case rel => exact ⟨k + 1, by omega, by go_num, HF.out⟩
        case measure => simp [intOf]; omega
    · have HF : Hid (R = false) := by show _ = _; rw [← hr, List.drop_eq_nil_of_le (by omega)]; simp
      clear hr
      go_wp2
      go_ret
      exact ⟨ret_bool HF.out.symm, rfl⟩

set_option maxRecDepth 100000 in
set_option maxHeartbeats 2000000 in
theorem spec_l7Put (base g m cp : Nat) (zs : List Int) (n : Int) (w : World) (h : OwnZ w base g m cp zs) (hbs : base ≤ w.heap.size) (ha : Asc zs) (hsz : m ≤ 1099511627776) :
    Calls Try.prog 129 #[.slice (some ⟨g, 0, none⟩) m cp, .int .i64 n] w fun e w' =>
      ∃ g' n' cap', e = .returned (.slice (some ⟨g', 0, none⟩) n' cap') ∧ OwnZ w' base g' n' cap' (putI zs n) ∧ Below w.heap.size w w' := by
  obtain ⟨i0, hif, hz0, hz1, hz2⟩ := info_parts infoZ
  have hl := h.1
  subst hl
  have HH := Hid.mk' (spec_l7Has (some ⟨g, 0, none⟩) zs.length cp zs n w h.sl)
  by_cases hn : n ∈ zs
  · rw [decide_eq_true hn] at HH
    have HP : Hid (putI zs n = zs) := by show _ = _; unfold putI; rw [if_pos hn]
    clear hn
    go_enter Try.func129, Try.ntmps129
    go_wp2_with (at_builtin; fail)
    refine HH.out.mono ?_
    rintro e w1 ⟨rfl, hw1⟩
    subst hw1
    go_wp2_with (at_builtin; fail)
    go_ret
    exact ⟨g, _, cp, rfl, by rw [HP.out]; exact h, Below.refl _ _⟩
  · rw [decide_eq_false hn] at HH
    have HN := Hid.mk' hn
    clear hn
    have hba : Below w.heap.size w (w.alloc (.cells #[] 3)) := (Below.refl _ _).alloc (Nat.le_refl _) _
    have HC := Hid.mk' (cells_ints (h.sl.below hba).cells)
    have hn0 : (intVals zs).length = zs.length * 1 := by rw [intVals_length, Nat.mul_one]
    have hm1 : 0 + zs.length ≤ maxLen := by unfold maxLen; omega
    have hm2 : (0 + zs.length) * 8 ≤ 140737488355328 := by omega
    have hown0 := (ownZ_made w w.heap.size (Nat.le_refl _)).2
    go_enter Try.func129, Try.ntmps129
    go_wp2_with (at_builtin; fail)
    refine HH.out.mono ?_
    rintro e w1 ⟨rfl, hw1⟩
    subst hw1
    go_wp2_with (at_builtin; refine wpList_append_own _ rfl _ _ 34 rfl w1.heap.size 3 i0 (.int .i64 0) 1 8 Try.underlying34 hif hz0 hz1 hz2 rfl (by decide) _ _ _ rfl hown0 ⟨g, 0, none⟩ zs.length cp (intVals zs) rfl hn0 HC.out (intVals_oneCell _) hm1 hm2 (le_alloc _ _ (Nat.le_refl _)) ?_)
    intro v1 w2 hown hgrow hnn
    obtain ⟨g1, cap1, hv, hO1⟩ := ownZ_val (zs := zs) rfl (by simpa using hnn) (by simpa [intVals] using hown)
    subst hv
    have hB1 : Below w1.heap.size w1 w2 := hba.grown hgrow (le_alloc _ _ (Nat.le_refl _)) (fun k e => by simp [Value.ownBlock] at e; omega)
    have hbw2 : w1.heap.size ≤ w2.heap.size := hB1.size
    have hc3 : zs.length + 1 ≤ maxLen := by unfold maxLen; omega
    have hc4 : (zs.length + 1) * 8 ≤ 140737488355328 := by omega
    clear hown hgrow hnn hown0 HC hn0 hm1 hm2 hba HH
    go_wp2_with (at_builtin; refine wpList_append_own _ rfl _ _ 34 rfl w1.heap.size 3 i0 (.int .i64 0) 1 8 Try.underlying34 hif hz0 hz1 hz2 rfl (by decide) _ _ _ rfl (hO1.2.alloc _) ⟨w2.heap.size, 0, none⟩ 1 1 (intVals [n]) rfl rfl (one_int_cells _ _ _) (intVals_oneCell _) hc3 hc4 (le_alloc _ _ hbw2) ?_)
    intro v3 w3 hown hgrow hnn
    obtain ⟨g3, cap3, hv, hO3⟩ := ownZ_app (zs := zs) rfl hnn hown
    subst hv
    have hB3 : Below w1.heap.size w1 w3 := (hB1.alloc hbw2 _).grown hgrow (le_alloc _ _ hbw2) (fun k e => by simp [Value.ownBlock] at e; have := hO1.lt; omega)
    have e0 : zs ++ [n] = gap zs zs.length n := by unfold gap; simp
    rw [e0] at hO3
    clear hown hgrow hnn hO1 hB1 e0
    go_wp2_with (at_builtin; fail)
    go_loopw [6] (fun kv wr => ∃ (k : Nat) (x : Int), k ≤ zs.length ∧ kv = .int .i64 (k : Int) ∧ (∀ y ∈ zs.drop k, n < y) ∧ OwnZ wr w1.heap.size g3 (zs.length + 1) cap3 (gap zs k x) ∧ Below w1.heap.size w1 wr) (fun kv _ => (intOf kv).toNat)
    case atStart => exact ⟨zs.length, n, Nat.le_refl _, by go_num, by simp, hO3, hB3⟩
    case round =>
      clear hO3 hB3
      obtain ⟨k, x, hk, rfl, hd, hO, hB⟩ := hrel
      have hgl := gap_length zs k x hk
      by_cases hk0 : k = 0
      · subst hk0
        have HP : Hid (putI zs n = gap zs 0 n) := putI_at zs n 0 ha HN.out hk hd (.inl rfl)
        have hfz := hO.frozen 0
        have hat := hO.at 0 (by omega)
        have R := ownZ_set hO 0 n
        rw [gap_set zs 0 x n hk, ← HP.out] at R
        have HR := Hid.mk' R
        have hlt3 := hO.lt
        generalize (gap zs 0 x)[0] = y0 at *
        clear R hO hd
        go_wp2_with (at_builtin; fail)
        go_ret
        exact ⟨g3, _, cap3, rfl, HR.out.1.mono hbs, hB.trans (below_grown HR.out.2 hlt3.1 hB.size)⟩
      · obtain ⟨j, rfl⟩ : ∃ j, k = j + 1 := ⟨k - 1, by omega⟩
        have hjz : j < zs.length := by omega
        have hgp := gap_prev zs (j + 1) x (by omega) hk
        simp only [Nat.add_sub_cancel] at hgp
        have hat : wr.cell? ⟨g3, j, none⟩ = some (.int .i64 zs[j]) := by
          have := hO.at j (by omega)
          rw [this]
          have e := List.getElem?_eq_getElem (l := gap zs (j + 1) x) (i := j) (by omega)
          rw [e] at hgp
          rw [Option.some.inj hgp]
        have hat2 := hO.at (j + 1) (by omega)
        have hfz := hO.frozen (j + 1)
        have hj1 : ((j + 1 : Nat) : Int) - 1 = (j : Int) := by omega
        have hjl : ((j : Nat) : Int) < ((zs.length + 1 : Nat) : Int) := by omega
        have hjl2 : ((j + 1 : Nat) : Int) < ((zs.length + 1 : Nat) : Int) := by omega
        have hpos : (0 : Int) < ((j + 1 : Nat) : Int) := by omega
        by_cases hgt : n < zs[j]
        · have R := ownZ_set hO (j + 1) zs[j]
          have hgd := gap_down zs (j + 1) (by omega) hk
          simp only [Nat.add_sub_cancel] at hgd
          rw [gap_set zs (j + 1) x zs[j] hk, hgd] at R
          have HD : Hid (∀ y ∈ zs.drop j, n < y) := by
            intro y hy
            rw [List.drop_eq_getElem_cons hjz] at hy
            rcases List.mem_cons.1 hy with rfl | hy
            · exact hgt
            · exact hd y hy
          have HR := Hid.mk' R
          have hlt3 := hO.lt
          generalize (gap zs (j + 1) x)[j + 1] = y0 at *
          generalize zs[j] = zj at *
          clear R hO hd hgp hgd
          go_wp2_with (at_builtin; fail)
          go_roundw
          case rel => exact ⟨j, zj, by omega, by go_num, HD.out, HR.out.1, hB.trans (below_grown HR.out.2 hlt3.1 hB.size)⟩
          case measure => simp [intOf]
        · have HP : Hid (putI zs n = gap zs (j + 1) n) := putI_at zs n (j + 1) ha HN.out hk hd (.inr ⟨hjz, hgt⟩)
          have R := ownZ_set hO (j + 1) n
          rw [gap_set zs (j + 1) x n hk, ← HP.out] at R
          have HR := Hid.mk' R
          have hlt3 := hO.lt
          generalize (gap zs (j + 1) x)[j + 1] = y0 at *
          generalize zs[j] = zj at *
          clear R hO hd hgp
          go_wp2_with (at_builtin; fail)
          go_ret
          exact ⟨g3, _, cap3, rfl, HR.out.1.mono hbs, hB.trans (below_grown HR.out.2 hlt3.1 hB.size)⟩

theorem putI_length (zs : List Int) (n : Int) : (putI zs n).length ≤ zs.length + 1 := by
  unfold putI
  split
  · omega
  · have h1 : ∀ l : List Int, (l.filter fun x => decide (x < n)).length + (l.filter fun x => decide (n < x)).length ≤ l.length := by
      intro l
      induction l with
      | nil => simp
      | cons x l ih =>
        simp only [List.filter_cons]
        by_cases a : x < n
        · have b : ¬ n < x := by omega
          simp [a, b]; omega
        · by_cases b : n < x
          · simp [a, b]; omega
          · simp [a, b]; omega
    have := h1 zs
    simp only [List.length_append, List.length_cons]
    omega
set_option maxRecDepth 100000 in
set_option maxHeartbeats 2000000 in
theorem spec_shardsOf (a : Option Addr) (len cap : Nat) (l : List Od) (n : Int) (w : World) (h : SlO w a len l) (hsz : len ≤ 1099511627776) (hn : (Lit.int .i64 n).wf = true) :
    Calls Try.prog 92 #[.slice a len cap, .int .i64 n] w fun e w' =>
      ∃ g' n' cap', e = .returned (.slice (some ⟨g', 0, none⟩) n' cap') ∧ OwnZ w' w.heap.size g' n' cap' (shardsOf n l) ∧ Below w.heap.size w w' := by
  have hl := h.1
  have hsm := h.2.2.1
  subst hl
  go_enter Try.func92, Try.ntmps92
  go_wp2_with (at_builtin; fail)
  go_loopw [5, 6] (fun v i wr => ∃ (k g n' cp : Nat), k ≤ l.length ∧ n' ≤ k ∧ i = .int .i64 (k : Int) ∧ v = .slice (some ⟨g, 0, none⟩) n' cp ∧ OwnZ wr w.heap.size g n' cp (shardsOf n (l.take k)) ∧ Below w.heap.size w wr) (fun _ i _ => l.length - (intOf i).toNat)
  case atStart => exact ⟨0, w.heap.size, 0, 0, Nat.zero_le _, Nat.le_refl _, rfl, rfl, ownZ_made w _ (Nat.le_refl _), (Below.refl _ _).alloc (Nat.le_refl _) _⟩
  case round =>
    obtain ⟨k, g, m, cp, hk, hnk, rfl, rfl, hO, hB⟩ := hrel
    have hbw : w.heap.size ≤ wr.heap.size := hB.size
    by_cases hlt : k < l.length
    · obtain ⟨b, off, ha, _⟩ := h.2.2.2 (by omega)
      subst ha
      obtain ⟨c0, c1, c2⟩ := (h.below hB).cells k hlt
      have hpk := hsm _ (List.getElem_mem hlt)
      have hki : (k : Int) < (l.length : Int) := by omega
      have HT := Hid.mk' (shards_take n l k hlt)
      have HSH := Hid.mk' (spec_shardOf l[k].2.1 n wr hpk.2.1 hn)
      have hol := hO.1
      have hpl := putI_length (shardsOf n (l.take k)) (shardOf l[k].2.1 n)
      have HP := Hid.mk' (spec_l7Put w.heap.size g m cp (shardsOf n (l.take k)) (shardOf l[k].2.1 n) wr hO hbw (shards_asc _ _) (by omega))
      generalize l[k] = p at *
      generalize shardOf p.2.1 n = sh at *
      generalize shardsOf n (l.take k) = u at *
      go_wp2_with (at_builtin; fail)
      refine HSH.out.mono ?_
      rintro e w1 ⟨rfl, hw1⟩
      subst hw1
      go_wp2_with (at_builtin; fail)
      refine HP.out.mono ?_
      rintro e w2 ⟨g2, n2, cp2, rfl, hO2, hB2⟩
      have hB3 : Below w.heap.size w w2 := hB.trans (hB2.mono hB.size)
      have hn2 : n2 ≤ k + 1 := by have := hO2.1; omega
      rw [← HT.out] at hO2
      have HO2 := Hid.mk' hO2
      clear hO2 hO hB hB2 HP HSH HT
      go_wp2_with (at_builtin; fail)
      go_roundw
      case rel => exact ⟨k + 1, g2, n2, cp2, by omega, hn2, by go_num, rfl, HO2.out, hB3⟩
      case measure => simp [intOf]; omega
    · have HE : Hid (l.take k = l) := List.take_of_length_le (by omega)
      go_wp2_with (at_builtin; fail)
      go_ret
      rw [HE.out] at hO
      exact ⟨g, m, cp, rfl, hO, hB⟩
end Go.Proofs.Yteniflajiklffaa.ords

namespace Go.Proofs.Yteniflajiklffaa.cos
open Go Go.RowKit Go.Proofs.Yteniflajiklffaa.base Go.Proofs.Yteniflajiklffaa.pairs Go.Proofs.Yteniflajiklffaa.ords Go.Proofs.Yteniflajiklffaa.lay Go.Proofs.Yteniflajiklffaa.wds
set_option linter.unusedVariables false
set_option linter.unusedSimpArgs false

abbrev coV (n life next sure : Int) (ja : Option Addr) (jn jc : Nat) (la : Option Addr) (ln lc : Nat) : Value := .agg #[.int .i64 n, .int .i64 life, .int .i64 next, .slice ja jn jc, .slice la ln lc, .int .i64 sure]
abbrev coO (n life next sure : Int) (ja : Option Addr) (jn jc : Nat) (la : Option Addr) (ln lc : Nat) : Obj := .cells #[.int .i64 n, .int .i64 life, .int .i64 next, .slice ja jn jc, .slice la ln lc, .int .i64 sure] 27
def BoxC (X : Nat) (n life next sure : Int) (ja : Option Addr) (jn jc : Nat) (la : Option Addr) (ln lc : Nat) (w : World) : Prop := w.heap[X]? = some (.cells #[.int .i64 n, .int .i64 life, .int .i64 next, .slice ja jn jc, .slice la ln lc, .int .i64 sure] 27 (0, 0))
section
variable {X : Nat} {n life next sure : Int} {ja : Option Addr} {jn jc : Nat} {la : Option Addr} {ln lc : Nat} {w w' : World}
theorem boxC_new (w : World) (n life next sure : Int) (ja : Option Addr) (jn jc : Nat) (la : Option Addr) (ln lc : Nat) : BoxC w.heap.size n life next sure ja jn jc la ln lc (w.alloc (coO n life next sure ja jn jc la ln lc)) := heap_alloc_new w _
theorem BoxC.cells (h : BoxC X n life next sure ja jn jc la ln lc w) : w.cell? ⟨X, 0, none⟩ = some (.int .i64 n) ∧ w.cell? ⟨X, 1, none⟩ = some (.int .i64 life) ∧ w.cell? ⟨X, 2, none⟩ = some (.int .i64 next) ∧ w.cell? ⟨X, 3, none⟩ = some (.slice ja jn jc) ∧ w.cell? ⟨X, 4, none⟩ = some (.slice la ln lc) ∧ w.cell? ⟨X, 5, none⟩ = some (.int .i64 sure) := by
  unfold BoxC at h
  simp [World.cell?, h]
theorem BoxC.lt (h : BoxC X n life next sure ja jn jc la ln lc w) : X < w.heap.size := (Array.getElem?_eq_some_iff.1 h).1
theorem BoxC.below (h : BoxC X n life next sure ja jn jc la ln lc w) (hb : Below w.heap.size w w') : BoxC X n life next sure ja jn jc la ln lc w' := (hb.block X h.lt).trans h
theorem BoxC.grown {row : Option Nat} (h : BoxC X n life next sure ja jn jc la ln lc w) (hg : w.grownBy w' row) (hne : some X ≠ row) : BoxC X n life next sure ja jn jc la ln lc w' := (hg.block X h.lt hne).trans h
theorem BoxC.fz (h : BoxC X n life next sure ja jn jc la ln lc w) (j : Nat) : w.frozen? ⟨X, j, none⟩ = false := by unfold BoxC at h; simp [World.frozen?, h]
end
theorem below_new (w : World) (o : Obj) : Below w.heap.size w (w.alloc o) := (Below.refl _ _).alloc (Nat.le_refl _) _
theorem idx_some (k : Nat) : idx (some k) = (k : Int) := rfl
theorem idx_none : idx none = -1 := rfl

set_option maxRecDepth 100000 in
set_option maxHeartbeats 1000000 in
theorem spec_chosen (n life next sure : Int) (ja : Option Addr) (jn jc : Nat) (la : Option Addr) (ln lc : Nat) (log : List Ch) (tx : Int) (w : World) (h : SlG chR w la ln log) :
    Calls Try.prog 64 #[coV n life next sure ja jn jc la ln lc, .int .i64 tx] w fun e w' => e = .returned (.int .i64 (idx (chosen log tx))) ∧ w' = w.alloc (coO n life next sure ja jn jc la ln lc) := by
  have hl := h.1
  have hm := h.2.1
  unfold maxLen at hm
  have hb := below_new w (coO n life next sure ja jn jc la ln lc)
  have hbx := boxC_new w n life next sure ja jn jc la ln lc
  have hS := h.below hb
  obtain ⟨W, hW⟩ : ∃ W, w.alloc (coO n life next sure ja jn jc la ln lc) = W := ⟨_, rfl⟩
  rw [hW] at hbx hS
  have HW := Hid.mk' hW
  obtain ⟨c0, c1, c2, c3, c4, c5⟩ := hbx.cells
  clear h hb hW
  rw [HW.out]
  go_enter Try.func64, Try.ntmps64
  go_wp2_with fail
  rw [HW.out]
  go_loopw [5] (fun i wr => ∃ k : Nat, k ≤ ln ∧ i = .int .i64 (k : Int) ∧ wr = W ∧ ∀ j (hj : j < k) (hjl : j < log.length), log[j].1 ≠ tx) (fun i _ => ln - (intOf i).toNat)
  case atStart => exact ⟨0, Nat.zero_le _, rfl, rfl, fun j hj => absurd hj (by omega)⟩
  case round =>
    obtain ⟨k, hk, rfl, hwr, hall⟩ := hrel
    replace hwr := hwr.symm
    subst hwr
    have HALL := Hid.mk' hall
    clear hall
    by_cases hlt : k < ln
    · have hltl : k < log.length := by omega
      obtain ⟨b, off, e⟩ := slg_some hS (by omega)
      subst e
      have hki : (k : Int) < (ln : Int) := by omega
      have hat := (ch_at hS k hltl).1
      by_cases ht : log[k].1 = tx
      · have HF : Hid (idx (chosen log tx) = (k : Int)) := by
          show _ = _
          rw [show chosen log tx = some k from findIdx_hit hltl (fun i hi => decide_eq_false (HALL.out i hi (by omega))) (decide_eq_true ht)]
          rfl
        rw [ht] at hat
        clear ht HALL
        go_wp2_with fail
        go_ret
        exact ⟨ret_int HF.out.symm, rfl⟩
      · have HN : Hid (∀ j (hj : j < k + 1) (hjl : j < log.length), log[j].1 ≠ tx) := fun j hj hjl => by
          rcases Nat.lt_succ_iff_lt_or_eq.1 hj with e | e
          · exact HALL.out j e hjl
          · subst e; exact ht
        generalize log[k].1 = txk at *
        have htb : (txk == tx) = false := beq_eq_false_iff_ne.2 ht
        clear HALL
        go_wp2_with fail
        go_roundw
        case rel => exact ⟨k + 1, by omega, by go_num, by first | rfl | trivial, HN.out⟩
        case measure => simp [intOf]; omega
    · have hnk : ¬ (k : Int) < (ln : Int) := by omega
      have HF : Hid (idx (chosen log tx) = -1) := by
        show _ = _
        rw [show chosen log tx = none from findIdx_none (fun i hi => decide_eq_false (HALL.out i (by omega) hi))]
        rfl
      clear HALL
      go_wp2_with fail
      go_ret
      exact ⟨ret_int HF.out.symm, rfl⟩
set_option maxRecDepth 100000 in
set_option maxHeartbeats 1000000 in
theorem spec_jobAt (n life next sure : Int) (ja : Option Addr) (jn jc : Nat) (la : Option Addr) (ln lc : Nat) (jobs : List Jb) (tx : Int) (w : World) (h : SlG jobR w ja jn jobs) :
    Calls Try.prog 131 #[coV n life next sure ja jn jc la ln lc, .int .i64 tx] w fun e w' => e = .returned (.int .i64 (idx (jobAt jobs tx))) ∧ w' = w.alloc (coO n life next sure ja jn jc la ln lc) := by
  have hl := h.1
  have hm := h.2.1
  unfold maxLen at hm
  have hb := below_new w (coO n life next sure ja jn jc la ln lc)
  have hbx := boxC_new w n life next sure ja jn jc la ln lc
  have hS := h.below hb
  obtain ⟨W, hW⟩ : ∃ W, w.alloc (coO n life next sure ja jn jc la ln lc) = W := ⟨_, rfl⟩
  rw [hW] at hbx hS
  have HW := Hid.mk' hW
  obtain ⟨c0, c1, c2, c3, c4, c5⟩ := hbx.cells
  clear h hb hW
  rw [HW.out]
  go_enter Try.func131, Try.ntmps131
  go_wp2_with fail
  rw [HW.out]
  go_loopw [5] (fun i wr => ∃ k : Nat, k ≤ jn ∧ i = .int .i64 (k : Int) ∧ wr = W ∧ ∀ j (hj : j < k) (hjl : j < jobs.length), jobs[j].1 ≠ tx) (fun i _ => jn - (intOf i).toNat)
  case atStart => exact ⟨0, Nat.zero_le _, rfl, rfl, fun j hj => absurd hj (by omega)⟩
  case round =>
    obtain ⟨k, hk, rfl, hwr, hall⟩ := hrel
    replace hwr := hwr.symm
    subst hwr
    have HALL := Hid.mk' hall
    clear hall
    by_cases hlt : k < jn
    · have hltl : k < jobs.length := by omega
      obtain ⟨b, off, e⟩ := slg_some hS (by omega)
      subst e
      have hki : (k : Int) < (jn : Int) := by omega
      have hat := (job_at hS k hltl).1
      by_cases ht : jobs[k].1 = tx
      · have HF : Hid (idx (jobAt jobs tx) = (k : Int)) := by
          show _ = _
          rw [show jobAt jobs tx = some k from findIdx_hit hltl (fun i hi => decide_eq_false (HALL.out i hi (by omega))) (decide_eq_true ht)]
          rfl
        rw [ht] at hat
        clear ht HALL
        go_wp2_with fail
        go_ret
        exact ⟨ret_int HF.out.symm, rfl⟩
      · have HN : Hid (∀ j (hj : j < k + 1) (hjl : j < jobs.length), jobs[j].1 ≠ tx) := fun j hj hjl => by
          rcases Nat.lt_succ_iff_lt_or_eq.1 hj with e | e
          · exact HALL.out j e hjl
          · subst e; exact ht
        generalize jobs[k].1 = txk at *
        have htb : (txk == tx) = false := beq_eq_false_iff_ne.2 ht
        clear HALL
        go_wp2_with fail
        go_roundw
        case rel => exact ⟨k + 1, by omega, by go_num, by first | rfl | trivial, HN.out⟩
        case measure => simp [intOf]; omega
    · have hnk : ¬ (k : Int) < (jn : Int) := by omega
      have HF : Hid (idx (jobAt jobs tx) = -1) := by
        show _ = _
        rw [show jobAt jobs tx = none from findIdx_none (fun i hi => decide_eq_false (HALL.out i (by omega) hi))]
        rfl
      clear HALL
      go_wp2_with fail
      go_ret
      exact ⟨ret_int HF.out.symm, rfl⟩
end Go.Proofs.Yteniflajiklffaa.cos
