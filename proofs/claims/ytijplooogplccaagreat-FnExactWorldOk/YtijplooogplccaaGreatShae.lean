/- The specification's orders: all of them are right. hash walks The specification's orders: what is met, what is done, at which shard. The specification's orders: what is done, and those of a shard. -/
import Derived.Test.YtijplooogplccaaGreatShad
import Derived.Test.YtijplooogplccaaGreatRows
import Derived.Test.YtijplooogplccaaGreatShaa
namespace Go.Proofs.YtijplooogplccaaGreat.ords
open Go Go.RowKit Go.Proofs.YtijplooogplccaaGreat.base Go.Proofs.YtijplooogplccaaGreat.pairs
set_option linter.unusedVariables false
set_option linter.unusedSimpArgs false

def prevO (l : List Od) (k : Nat) : Option ByteArray := if k = 0 then none else (l[k - 1]?).map (·.2.1)
theorem opsFrom_zero (l : List Od) (k : Nat) (h : k < l.length) (h0 : k = 0) : opsFrom (prevO l k) (l.drop k) = (odOk l[k] && opsFrom (prevO l (k + 1)) (l.drop (k + 1))) := by
  subst h0
  cases l with
  | nil => simp at h
  | cons p l => simp [prevO, opsFrom]
theorem opsFrom_step (l : List Od) (k : Nat) (h : k < l.length) (h0 : 0 < k) : opsFrom (prevO l k) (l.drop k) = (odOk l[k] && ltB l[k - 1].2.1 l[k].2.1 && opsFrom (prevO l (k + 1)) (l.drop (k + 1))) := by
  have e1 : prevO l k = some l[k - 1].2.1 := by unfold prevO; rw [if_neg (by omega), List.getElem?_eq_getElem (by omega)]; rfl
  have e2 : prevO l (k + 1) = some l[k].2.1 := by unfold prevO; rw [if_neg (by omega), Nat.add_sub_cancel, List.getElem?_eq_getElem h]; rfl
  rw [e1, e2, List.drop_eq_getElem_cons h, opsFrom]

set_option maxRecDepth 100000 in
set_option maxHeartbeats 2000000 in
theorem spec_opsOk (b off len cap : Nat) (l : List Od) (w : World) (h : SlO w (some ⟨b, off, none⟩) len l) (hks : ∀ p ∈ l, p.2.1.size ≤ 1099511627776) :
    Calls Tryz.prog 47 #[.slice (some ⟨b, off, none⟩) len cap] w fun e w' => e = .returned (.bool (opsOk l)) ∧ Below w.heap.size w w' := by
  have hl := h.1
  have hm := h.2.1
  have hsm := h.2.2.1
  subst hl
  unfold maxLen at hm
  generalize hR : opsFrom none l = R
  have HR := Hid.mk' hR
  clear hR
  go_enter Tryz.func47, Tryz.ntmps47
  go_wp2_with fail
  go_loopw [3] (fun i wr => ∃ k : Nat, k ≤ l.length ∧ i = .int .i64 (k : Int) ∧ opsFrom (prevO l k) (l.drop k) = R ∧ Below w.heap.size w wr) (fun i _ => l.length - (intOf i).toNat)
  case atStart => exact ⟨0, Nat.zero_le _, rfl, HR.out, Below.refl _ _⟩
  case round =>
    obtain ⟨k, hk, rfl, hr, hB⟩ := hrel
    by_cases hlt : k < l.length
    · have hS := h.below hB
      obtain ⟨c0, c1, c2⟩ := hS.cells k hlt
      have hbl := hS.lt (by omega)
      have hpk := hsm _ (List.getElem_mem hlt)
      have hks' := hks _ (List.getElem_mem hlt)
      have hki : (k : Int) < (l.length : Int) := by omega
      have hbd : b < wr.drew.heap.size := hbl
      by_cases h0 : k = 0
      · have hst := opsFrom_zero l k hlt h0
        rw [hr] at hst
        have hk0 : ¬ (0 : Int) < (k : Int) := by omega
        have hk1 : decide (0 < k) = false := by simp; omega
        have hk2 : decide ((0 : Int) < (k : Int)) = false := by simp; omega
        cases hP : odOk l[k]
        · have HF : Hid (R = false) := by rw [hP] at hst; exact hst
          have HP := Hid.mk' hP
          clear hst hr hP hS h0
          generalize l[k] = p at *
          have o0 := last.On.cell c0 hbl
          have o1 := last.On.cell c1 hbl
          have o2 := last.On.cell c2 hbl
          go_wp2_with fail
          have hinh := last.On.inh wr.heap.size wr
          have hcall : ∀ x : last.On wr.heap.size wr, Calls Tryz.prog 84 #[.agg #[.int .i64 p.1, .string p.2.1, .string p.2.2]] x.w fun e w' => e = .returned (.bool false) ∧ ∃ y : last.On wr.heap.size wr, w' = y.w := fun x => last.Calls.on x (Nat.le_refl _) (by have := spec_l7Op p x.w hpk hks'; rw [HP.out] at this; exact this)
          refine last.wp_region_on wr.heap.size (by kernel_rfl) (by kernel_rfl) ?_
          repeat (go_big_quiet_step ((go_at_call 84; exact hcall _)))
          refine wpQuiet_nil ?_
          intro w5 hw5
          obtain ⟨x5, hw5⟩ := hw5
          subst hw5
          have hB5 : Below w.heap.size w x5.w := hB.trans (x5.2.mono hB.size)
          go_wp2_with fail
          go_ret
          exact ⟨ret_bool (by unfold opsOk; rw [HR.out, HF.out]; rfl), hB5⟩
        · have HF : Hid (opsFrom (prevO l (k + 1)) (l.drop (k + 1)) = R) := by show _ = _; rw [hP] at hst; simpa using hst.symm
          have HP := Hid.mk' hP
          clear hst hr hP hS h0
          generalize l[k] = p at *
          have o0 := last.On.cell c0 hbl
          have o1 := last.On.cell c1 hbl
          have o2 := last.On.cell c2 hbl
          go_wp2_with fail
          have hinh := last.On.inh wr.heap.size wr
          have hcall : ∀ x : last.On wr.heap.size wr, Calls Tryz.prog 84 #[.agg #[.int .i64 p.1, .string p.2.1, .string p.2.2]] x.w fun e w' => e = .returned (.bool true) ∧ ∃ y : last.On wr.heap.size wr, w' = y.w := fun x => last.Calls.on x (Nat.le_refl _) (by have := spec_l7Op p x.w hpk hks'; rw [HP.out] at this; exact this)
          refine last.wp_region_on wr.heap.size (by kernel_rfl) (by kernel_rfl) ?_
          repeat (go_big_quiet_step ((go_at_call 84; exact hcall _)))
          refine wpQuiet_nil ?_
          intro w5 hw5
          obtain ⟨x5, hw5⟩ := hw5
          subst hw5
          have hB5 : Below w.heap.size w x5.w := hB.trans (x5.2.mono hB.size)
          go_wp2_with fail
          go_roundw
          case rel => exact ⟨k + 1, by omega, by go_num, HF.out, hB5⟩
          case measure => simp [intOf]; omega
      · have hst := opsFrom_step l k hlt (by omega)
        rw [hr] at hst
        have hk0 : (0 : Int) < (k : Int) := by omega
        have hk1 : decide (0 < k) = true := by simp; omega
        have hk2 : decide ((0 : Int) < (k : Int)) = true := by simp; omega
        have c3 := (hS.cells (k - 1) (by omega)).2.1
        obtain ⟨j, hj⟩ : ∃ j, k - 1 = j := ⟨_, rfl⟩
        have hjw : (k : Int) - 1 = (j : Int) := by omega
        have hjk : (j : Int) < (l.length : Int) := by omega
        generalize l[k - 1].2.1 = q at *
        rw [hj] at c3
        have o3 := last.On.cell c3 hbl
        cases hP : odOk l[k]
        · have HF : Hid (R = false) := by rw [hP] at hst; exact hst
          have HP := Hid.mk' hP
          clear hst hr hP hS h0 hj
          generalize l[k] = p at *
          have o0 := last.On.cell c0 hbl
          have o1 := last.On.cell c1 hbl
          have o2 := last.On.cell c2 hbl
          go_wp2_with fail
          have hinh := last.On.inh wr.heap.size wr
          have hcall : ∀ x : last.On wr.heap.size wr, Calls Tryz.prog 84 #[.agg #[.int .i64 p.1, .string p.2.1, .string p.2.2]] x.w fun e w' => e = .returned (.bool false) ∧ ∃ y : last.On wr.heap.size wr, w' = y.w := fun x => last.Calls.on x (Nat.le_refl _) (by have := spec_l7Op p x.w hpk hks'; rw [HP.out] at this; exact this)
          refine last.wp_region_on wr.heap.size (by kernel_rfl) (by kernel_rfl) ?_
          repeat (go_big_quiet_step ((go_at_call 84; exact hcall _)))
          refine wpQuiet_nil ?_
          intro w5 hw5
          obtain ⟨x5, hw5⟩ := hw5
          subst hw5
          have hB5 : Below w.heap.size w x5.w := hB.trans (x5.2.mono hB.size)
          go_wp2_with fail
          go_ret
          exact ⟨ret_bool (by unfold opsOk; rw [HR.out, HF.out]; rfl), hB5⟩
        · cases hL : ltB q l[k].2.1
          · have HF : Hid (R = false) := by show _ = _; rw [hP, hL] at hst; simpa using hst
            have HP := Hid.mk' hP
            have hl2 : Op.bytesLess q.toList l[k].2.1.toList = false := hL
            clear hst hr hP hS h0 hj hL
            generalize l[k] = p at *
            have o0 := last.On.cell c0 hbl
            have o1 := last.On.cell c1 hbl
            have o2 := last.On.cell c2 hbl
            go_wp2_with fail
            have hinh := last.On.inh wr.heap.size wr
            have hcall : ∀ x : last.On wr.heap.size wr, Calls Tryz.prog 84 #[.agg #[.int .i64 p.1, .string p.2.1, .string p.2.2]] x.w fun e w' => e = .returned (.bool true) ∧ ∃ y : last.On wr.heap.size wr, w' = y.w := fun x => last.Calls.on x (Nat.le_refl _) (by have := spec_l7Op p x.w hpk hks'; rw [HP.out] at this; exact this)
            refine last.wp_region_on wr.heap.size (by kernel_rfl) (by kernel_rfl) ?_
            repeat (go_big_quiet_step ((go_at_call 84; exact hcall _)))
            refine wpQuiet_nil ?_
            intro w5 hw5
            obtain ⟨x5, hw5⟩ := hw5
            subst hw5
            have hB5 : Below w.heap.size w x5.w := hB.trans (x5.2.mono hB.size)
            go_wp2_with fail
            go_ret
            exact ⟨ret_bool (by unfold opsOk; rw [HR.out, HF.out]; rfl), hB5⟩
          · have HF : Hid (opsFrom (prevO l (k + 1)) (l.drop (k + 1)) = R) := by show _ = _; rw [hP, hL] at hst; simpa using hst.symm
            have HP := Hid.mk' hP
            have hl2 : Op.bytesLess q.toList l[k].2.1.toList = true := hL
            clear hst hr hP hS h0 hj hL
            generalize l[k] = p at *
            have o0 := last.On.cell c0 hbl
            have o1 := last.On.cell c1 hbl
            have o2 := last.On.cell c2 hbl
            go_wp2_with fail
            have hinh := last.On.inh wr.heap.size wr
            have hcall : ∀ x : last.On wr.heap.size wr, Calls Tryz.prog 84 #[.agg #[.int .i64 p.1, .string p.2.1, .string p.2.2]] x.w fun e w' => e = .returned (.bool true) ∧ ∃ y : last.On wr.heap.size wr, w' = y.w := fun x => last.Calls.on x (Nat.le_refl _) (by have := spec_l7Op p x.w hpk hks'; rw [HP.out] at this; exact this)
            refine last.wp_region_on wr.heap.size (by kernel_rfl) (by kernel_rfl) ?_
            repeat (go_big_quiet_step ((go_at_call 84; exact hcall _)))
            refine wpQuiet_nil ?_
            intro w5 hw5
            obtain ⟨x5, hw5⟩ := hw5
            subst hw5
            have hB5 : Below w.heap.size w x5.w := hB.trans (x5.2.mono hB.size)
            go_wp2_with fail
            go_roundw
            case rel => exact ⟨k + 1, by omega, by go_num, HF.out, hB5⟩
            case measure => simp [intOf]; omega
    · have HF : Hid (R = true) := by show _ = _; rw [← hr, List.drop_eq_nil_of_le (by omega)]; cases prevO l k <;> rfl
      clear hr
      go_wp2_with fail
      refine (s_inZ (l.length : Int) 1 8 _).mono ?_
      rintro e w9 ⟨rfl, rfl⟩
      go_wp2_with fail
      go_ret
      exact ⟨ret_bool (by unfold opsOk; rw [HR.out, HF.out, Bool.true_and]; have e : (1 ≤ (l.length : Int) ∧ (l.length : Int) ≤ 8) ↔ (1 ≤ l.length ∧ l.length ≤ 8) := by omega
                          rw [← Bool.decide_and]; exact decide_eq_decide.2 e), hB⟩

end Go.Proofs.YtijplooogplccaaGreat.ords

namespace Go.Proofs.YtijplooogplccaaGreat.hash
open Go.RowKit Go.Proofs.YtijplooogplccaaGreat.base
set_option linter.unusedVariables false
set_option linter.unusedSimpArgs false

set_option maxHeartbeats 400000 in
theorem spec_hash (s : ByteArray) (w : World) (hs : s.size ≤ maxLen) :
    Calls Tryz.prog 143 #[.string s] w fun e w' => e = .returned (.int .i64 (hashOf s.data.toList)) ∧ w' = w := by
  unfold maxLen at hs
  go_enter Tryz.func143, Tryz.ntmps143
  go_wp2
  go_loop [3, 4] (fun h i => ∃ k : Nat, k ≤ s.size ∧ i = .int .i64 k ∧ h = .int .i64 (hashOf (s.data.toList.take k))) (fun _ i => s.size - (intOf i).toNat)
  case atStart => exact ⟨0, Nat.zero_le _, rfl, rfl⟩
  case round =>
    obtain ⟨k, hk, rfl, rfl⟩ := hrel
    have hd := hashOf_lt (s.data.toList.take k)
    by_cases hlt : k < s.size
    · have HS : Hid (hashOf (s.data.toList.take (k + 1)) = hstep (hashOf (s.data.toList.take k)) s[k].toNat) := by rw [take_snoc s k hlt]; exact hashOf_snoc _ _
      go_wp2
      have hb : s[k].toNat < 256 := s[k].toNat_lt
      go_round
      case rel =>
        refine ⟨k + 1, by omega, by go_num, ?_⟩
        rw [HS.out, IntWalk.wrap64_in (s[k].toNat : Int) (by omega)]
        exact val_int (i64_step' _ _ hd hb)
      case measure => simp [intOf]; omega
    · go_wp2
      go_ret
      exact ⟨ret_int (by rw [List.take_of_length_le (by simp; omega)]), rfl⟩

set_option maxHeartbeats 400000 in
theorem impl_hash (s : ByteArray) (w : World) (hs : s.size ≤ maxLen) :
    Calls Tryz.prog 172 #[.string s] w fun e w' => e = .returned (.int .i64 (hashOf s.data.toList)) ∧ Below w.heap.size w w' := by
  unfold maxLen at hs
  have hconv := Lib.run_convert_string_bytes (P := Tryz.prog) w 9 234 5 s Tryz.underlying9 Tryz.underlying234 Tryz.underlying5
  go_enter Tryz.func172, Tryz.ntmps172
  go_wp2
  go_loop [3, 9] (fun h i => ∃ k : Nat, k ≤ s.size ∧ i = .int .i64 k ∧ h = .int .u32 (hashOf (s.data.toList.take k))) (fun _ i => s.size - (intOf i).toNat)
  case atStart => exact ⟨0, Nat.zero_le _, rfl, rfl⟩
  case round =>
    obtain ⟨k, hk, rfl, rfl⟩ := hrel
    have hd := hashOf_lt (s.data.toList.take k)
    by_cases hlt : k < s.size
    · have HS : Hid (hashOf (s.data.toList.take (k + 1)) = hstep (hashOf (s.data.toList.take k)) s[k].toNat) := by rw [take_snoc s k hlt]; exact hashOf_snoc _ _
      have hcell : (Lib.bytesWorld w 5 s).cell? ⟨w.heap.size, k, none⟩ = some (.int .u8 s[k].toNat) := by
        rw [Lib.bytesWorld_cell w 5 s k hlt]; simp [List.getD, hlt]; rfl
      go_wp2
      have hb : s[k].toNat < 256 := s[k].toNat_lt
      go_round
      case rel =>
        refine ⟨k + 1, by omega, by go_num, ?_⟩
        rw [HS.out]
        refine val_int ?_
        rw [← u32_step _ _ hd hb, IntKind.wrap_u32, Int.emod_eq_of_lt (a := (s[k].toNat : Int)) (by omega) (by omega)]
      case measure => simp [intOf]; omega
    · go_wp2
      go_ret
      exact ⟨ret_int (by rw [List.take_of_length_le (by simp; omega)]), below_bytesWorld _ _ _⟩
end Go.Proofs.YtijplooogplccaaGreat.hash

namespace Go.Proofs.YtijplooogplccaaGreat.ords
open Go Go.RowKit Go.Proofs.YtijplooogplccaaGreat.base Go.Proofs.YtijplooogplccaaGreat.pairs
set_option linter.unusedVariables false
set_option linter.unusedSimpArgs false

theorem meets_drop (m : List Pr) (l : List Od) (k : Nat) (h : k < l.length) : meets m (l.drop k) = (meet1 m l[k] && meets m (l.drop (k + 1))) := by
  rw [List.drop_eq_getElem_cons h]; rfl

set_option maxHeartbeats 400000 in
theorem spec_shardOf (key : ByteArray) (n : Int) (w : World) (hs : key.size ≤ maxLen) (hn : (Lit.int .i64 n).wf = true) :
    Calls Tryz.prog 109 #[.string key, .int .i64 n] w fun e w' => e = .returned (.int .i64 (shardOf key n)) ∧ w' = w := by
  have hH := hashOf_lt key.data.toList
  have HC := Hid.mk' (hash.spec_hash key w hs)
  unfold shardOf
  generalize hashOf key.data.toList = H at *
  by_cases h1 : n < 1
  · rw [if_pos h1]
    go_enter Tryz.func109, Tryz.ntmps109
    go_wp2_with fail
    go_ret
    exact ⟨rfl, rfl⟩
  · rw [if_neg h1]
    have h2 : Int.tmod (H : Int) n = (H : Int) % n := Int.tmod_eq_emod_of_nonneg (by omega)
    have h3 : 0 ≤ (H : Int) % n := Int.emod_nonneg _ (by omega)
    have h4 : (H : Int) % n ≤ 4294967296 := by
      have h5 := Int.emod_add_ediv_mul (H : Int) n
      have h6 : 0 ≤ (H : Int) / n * n := Int.mul_nonneg (Int.ediv_nonneg (by omega) (by omega)) (by omega)
      omega
    generalize (H : Int) % n = R at *
    go_enter Tryz.func109, Tryz.ntmps109
    go_wp2_with fail
    refine HC.out.mono ?_
    rintro e w1 ⟨rfl, rfl⟩
    go_wp2_with fail
    go_ret
    exact ⟨rfl, rfl⟩

set_option maxRecDepth 100000 in
set_option maxHeartbeats 2000000 in
theorem spec_meets (a : Option Addr) (len cap : Nat) (m : List Pr) (a2 : Option Addr) (len2 cap2 : Nat) (l : List Od) (w : World) (h : SlP w a len m) (h2 : SlO w a2 len2 l) :
    Calls Tryz.prog 126 #[.slice a len cap, .slice a2 len2 cap2] w fun e w' => e = .returned (.bool (meets m l)) ∧ Below w.heap.size w w' := by
  have hl := h2.1
  have hm := h2.2.1
  subst hl
  unfold maxLen at hm
  generalize hR : meets m l = R
  have HR := Hid.mk' hR
  clear hR
  go_enter Tryz.func126, Tryz.ntmps126
  go_wp2_with fail
  go_loopw [5] (fun i wr => ∃ k : Nat, k ≤ l.length ∧ i = .int .i64 (k : Int) ∧ meets m (l.drop k) = R ∧ Below w.heap.size w wr) (fun i _ => l.length - (intOf i).toNat)
  case atStart => exact ⟨0, Nat.zero_le _, rfl, HR.out, Below.refl _ _⟩
  case round =>
    obtain ⟨k, hk, rfl, hr, hB⟩ := hrel
    by_cases hlt : k < l.length
    · obtain ⟨b, off, ha, hcl⟩ := h2.2.2.2 (by omega)
      subst ha
      have hS := h2.below hB
      obtain ⟨c0, c1, c2⟩ := hS.cells k hlt
      have hP := h.below hB
      have hst := meets_drop m l k hlt
      rw [hr] at hst
      have hki : (k : Int) < (l.length : Int) := by omega
      unfold meet1 at hst
      have HG := Hid.mk' (spec_getKey a len cap m l[k].2.1 wr hP)
      generalize getKey l[k].2.1 m = G at *
      have HST := Hid.mk' hst
      clear hst hr hS hcl hP
      generalize l[k] = o at *
      obtain ⟨z, key, val⟩ := o
      simp only [] at c0 c1 c2
      by_cases hz : z = 3
      · subst hz
        cases G with
        | none =>
          simp only [getRet] at HG
          by_cases hv : val.size = 0
          · have HF : Hid (meets m (l.drop (k + 1)) = R) := by show _ = _; have := HST.out; simp [hv] at this; exact this.symm
            obtain rfl := size_empty hv
            clear HST hv
            go_wp2_with fail
            refine HG.out.mono ?_
            rintro e w1 ⟨rfl, hw1⟩
            subst hw1
            go_wp2_with fail
            go_roundw
            case rel => exact ⟨k + 1, by omega, by go_num, HF.out, by first | exact hB | exact hB.drew⟩
            case measure => simp [intOf]; omega
          · have HF : Hid (R = false) := by show _ = _; have := HST.out; simpa [hv] using this
            obtain ⟨hq, hq2⟩ := not_empty hv
            clear HST hv
            go_wp2_with fail
            refine HG.out.mono ?_
            rintro e w1 ⟨rfl, hw1⟩
            subst hw1
            go_wp2_with fail
            go_ret
            exact ⟨ret_bool HF.out.symm, by first | exact hB | exact hB.drew⟩
        | some v =>
          simp only [getRet] at HG
          by_cases hv : val.size = 0
          · have HF : Hid (R = false) := by show _ = _; have := HST.out; simpa [hv] using this
            obtain rfl := size_empty hv
            clear HST hv
            go_wp2_with fail
            refine HG.out.mono ?_
            rintro e w1 ⟨rfl, hw1⟩
            subst hw1
            go_wp2_with fail
            go_ret
            exact ⟨ret_bool HF.out.symm, by first | exact hB | exact hB.drew⟩
          · obtain ⟨hq, hq2⟩ := not_empty hv
            by_cases hvv : v = val
            · have HF : Hid (meets m (l.drop (k + 1)) = R) := by show _ = _; have := HST.out; simp [hv, hvv] at this; exact this.symm
              subst hvv
              clear HST hv
              go_wp2_with fail
              refine HG.out.mono ?_
              rintro e w1 ⟨rfl, hw1⟩
              subst hw1
              go_wp2_with fail
              go_roundw
              case rel => exact ⟨k + 1, by omega, by go_num, HF.out, by first | exact hB | exact hB.drew⟩
              case measure => simp [intOf]; omega
            · have HF : Hid (R = false) := by show _ = _; have := HST.out; simpa [hv, hvv] using this
              have hne := str_ne hvv
              clear HST hv hvv
              go_wp2_with fail
              refine HG.out.mono ?_
              rintro e w1 ⟨rfl, hw1⟩
              subst hw1
              go_wp2_with fail
              go_ret
              exact ⟨ret_bool HF.out.symm, by first | exact hB | exact hB.drew⟩
      · have HF : Hid (meets m (l.drop (k + 1)) = R) := by show _ = _; have := HST.out; simp [hz] at this; exact this.symm
        have hzz : (z == 3) = false := beq_eq_false_iff_ne.2 hz
        clear HST hz
        go_wp2_with fail
        go_roundw
        case rel => exact ⟨k + 1, by omega, by go_num, HF.out, hB⟩
        case measure => simp [intOf]; omega
    · have HF : Hid (R = true) := by show _ = _; rw [← hr, List.drop_eq_nil_of_le (by omega)]; rfl
      clear hr
      go_wp2_with fail
      go_ret
      exact ⟨ret_bool HF.out.symm, hB⟩
end Go.Proofs.YtijplooogplccaaGreat.ords

namespace Go.Proofs.YtijplooogplccaaGreat.ords
open Go Go.RowKit Go.Proofs.YtijplooogplccaaGreat.base Go.Proofs.YtijplooogplccaaGreat.pairs
set_option linter.unusedVariables false
set_option linter.unusedSimpArgs false

theorem apply1_length (m : List Pr) (o : Od) : (apply1 m o).length ≤ m.length + 1 := by
  unfold apply1
  split
  · exact (putKey_length _ _ _).1
  · split
    · exact Nat.le_trans (List.length_filter_le _ _) (by omega)
    · omega
set_option maxRecDepth 100000 in
set_option maxHeartbeats 2000000 in
theorem spec_apply (b off len cap : Nat) (m : List Pr) (a2 : Option Addr) (len2 cap2 : Nat) (l : List Od) (w : World) (h : SlP w (some ⟨b, off, none⟩) len m) (h2 : SlO w a2 len2 l) (hsz : len + len2 ≤ 1099511627776) :
    Calls Tryz.prog 128 #[.slice (some ⟨b, off, none⟩) len cap, .slice a2 len2 cap2] w fun e w' =>
      ∃ g' n' cap', e = .returned (.slice (some ⟨g', 0, none⟩) n' cap') ∧ OwnP w' w.heap.size g' n' cap' (applyAll m l) ∧ Below w.heap.size w w' := by
  obtain ⟨i0, hif, hz0, hz1, hz2⟩ := info_parts infoP
  have hl := h.1
  have hsm := h.2.2.1
  have hl2 := h2.1
  have hsm2 := h2.2.2.1
  subst hl hl2
  have hba : Below w.heap.size w (w.alloc (.cells #[] 151)) := (Below.refl _ _).alloc (Nat.le_refl _) _
  have HC := Hid.mk' (cells_pairs (h.below hba).cells)
  have hn0 := pairVals_length m
  have hm1 : 0 + m.length ≤ maxLen := by unfold maxLen; omega
  have hm2 : (0 + m.length) * 32 ≤ 140737488355328 := by omega
  have hown0 := (ownP_made w w.heap.size (Nat.le_refl _)).2.2
  go_enter Tryz.func128, Tryz.ntmps128
  go_wp2_with (at_builtin; refine wpList_append_own _ rfl (.tmp 7) (.tmp 8) 53 rfl w.heap.size 151 i0 (.agg #[.string ⟨#[]⟩, .string ⟨#[]⟩]) 2 32 Tryz.underlying53 hif hz0 hz1 hz2 rfl (by decide) _ _ _ rfl hown0 ⟨b, off, none⟩ m.length cap (pairVals m) rfl hn0 HC.out (pairVals_oneCell _) hm1 hm2 (le_alloc _ _ (Nat.le_refl _)) ?_)
  intro v1 w1 hown hgrow hnn
  have hnn' : ¬ v1 = .slice none 0 0 := by simpa using hnn
  obtain ⟨g1, cap1, hv, hO1⟩ := ownP_val rfl hsm hnn' (by simpa [pairVals] using hown)
  subst hv
  have hB1 : Below w.heap.size w w1 := hba.grown hgrow (le_alloc _ _ (Nat.le_refl _)) (fun k e => by simp [Value.ownBlock] at e; omega)
  clear hown hgrow hnn hnn' hown0 HC hn0 hm1 hm2 hba
  go_wp2_with (at_builtin; fail)
  go_loopw [5, 6] (fun v i wr => ∃ (k g n cp : Nat), k ≤ l.length ∧ n ≤ m.length + k ∧ i = .int .i64 (k : Int) ∧ v = .slice (some ⟨g, 0, none⟩) n cp ∧ OwnP wr w.heap.size g n cp (applyAll m (l.take k)) ∧ Below w.heap.size w wr) (fun _ i _ => l.length - (intOf i).toNat)
  case atStart => exact ⟨0, g1, _, cap1, Nat.zero_le _, by omega, rfl, rfl, hO1, hB1⟩
  case round =>
    clear hO1 hB1
    obtain ⟨k, g, n, cp, hk, hn, rfl, rfl, hO, hB⟩ := hrel
    by_cases hlt : k < l.length
    · obtain ⟨b2, off2, ha, hcl⟩ := h2.2.2.2 (by omega)
      subst ha
      obtain ⟨c0, c1, c2⟩ := (h2.below hB).cells k hlt
      have hpk := hsm2 _ (List.getElem_mem hlt)
      have hki : (k : Int) < (l.length : Int) := by omega
      have HU := Hid.mk' (apply_take m l k hlt)
      have hpl := apply1_length (applyAll m (l.take k)) l[k]
      have hOd : OwnP wr.drew w.heap.size g n cp (applyAll m (l.take k)) := hO
      have hcs := hO.cases
      have hul := hO.1
      generalize l[k] = p at *
      generalize applyAll m (l.take k) = u at *
      obtain ⟨z, key, val⟩ := p
      simp only [] at c0 c1 c2 hpk
      clear hcl
      by_cases hz : z = 1
      · subst hz
        have HU2 : Hid (applyAll m (l.take (k + 1)) = putKey key val u) := by show _ = _; rw [HU.out]; rfl
        have hpl2 := (putKey_length key val u).1
        clear HU hpl
        go_wp2_with (at_builtin; fail)
        go_region_held3 (fun w' => w'.cell? ⟨b2, off2 + k * 3 + 1, none⟩ = some (.string key) ∧ w'.cell? ⟨b2, off2 + k * 3 + 2, none⟩ = some (.string val)) (first | (exact keepB2 hb5 (by assumption)) | (go_keep)) (first | (go_at_call 152; refine (spec_putKey g 0 n cp u key val _ hOd.sl hcs.1 (by omega) hpk.2.1 hpk.2.2).mono ?_; rintro e w5 ⟨g5, n5, cp5, rfl, hO5, hb5⟩))
        all_goals
          have hB5 : Below w.heap.size w w5 := hB.drew.trans (hb5.mono hB.size)
          have hO5' := hO5.mono (base' := w.heap.size) hB.size
          rw [← HU2.out] at hO5'
          have hn5 : n5 ≤ m.length + (k + 1) := by have := hO5.1; omega
          have HO5 := Hid.mk' hO5'
          clear hb5 hO5 hO5' hO hOd hB c0 c1 c2
          go_wp2_with (at_builtin; fail)
          go_roundw
          case rel => exact ⟨k + 1, g5, n5, cp5, by omega, hn5, by go_num, rfl, HO5.out, hB5⟩
          case measure => simp [intOf]; omega
      · have hb1 : (z == 1) = false := beq_eq_false_iff_ne.2 hz
        by_cases hz2 : z = 2
        · subst hz2
          have HU2 : Hid (applyAll m (l.take (k + 1)) = delKey key u) := by show _ = _; rw [HU.out]; rfl
          have hpl2 : (delKey key u).length ≤ u.length := List.length_filter_le _ _
          clear HU hpl hz
          go_wp2_with (at_builtin; fail)
          refine (spec_delKey g 0 n cp u key _ hO.sl (by omega)).mono ?_
          rintro e w5 ⟨g5, n5, cp5, rfl, hO5, hb5⟩
          have hB5 : Below w.heap.size w w5 := hB.trans (hb5.mono hB.size)
          have hO5' := hO5.mono (base' := w.heap.size) hB.size
          rw [← HU2.out] at hO5'
          have hn5 : n5 ≤ m.length + (k + 1) := by have := hO5.1; omega
          have HO5 := Hid.mk' hO5'
          clear hb5 hO5 hO5' hO hOd hB c0 c1 c2
          go_wp2_with (at_builtin; fail)
          go_roundw
          case rel => exact ⟨k + 1, g5, n5, cp5, by omega, hn5, by go_num, rfl, HO5.out, hB5⟩
          case measure => simp [intOf]; omega
        · have hb2 : (z == 2) = false := beq_eq_false_iff_ne.2 hz2
          have HU2 : Hid (applyAll m (l.take (k + 1)) = u) := by show _ = _; rw [HU.out]; unfold apply1; rw [if_neg hz, if_neg hz2]
          clear HU hpl hz hz2
          go_wp2_with (at_builtin; fail)
          go_roundw
          case rel => exact ⟨k + 1, g, n, cp, by omega, by omega, by go_num, rfl, by rw [HU2.out]; exact hO, hB⟩
          case measure => simp [intOf]; omega
    · have HE : Hid (l.take k = l) := List.take_of_length_le (by omega)
      go_wp2_with (at_builtin; fail)
      go_ret
      rw [HE.out] at hO
      exact ⟨g, n, cp, rfl, hO, hB⟩
theorem append_nothingP (w : World) (g c : Nat) (ty : TypeId) : (Builtin.append_ #[53, 53] ty #[.slice (some ⟨g, 0, none⟩) 0 0, .slice none 0 c]).run Tryz.prog w = .ok (.slice (some ⟨g, 0, none⟩) 0 0) w := by kernel_rfl
set_option maxRecDepth 100000 in
set_option maxHeartbeats 2000000 in
theorem spec_apply_nil (cap : Nat) (m : List Pr) (a2 : Option Addr) (len2 cap2 : Nat) (l : List Od) (w : World) (hm : m = []) (h2 : SlO w a2 len2 l) (hsz : len2 ≤ 1099511627776) :
    Calls Tryz.prog 128 #[.slice none 0 cap, .slice a2 len2 cap2] w fun e w' =>
      ∃ g' n' cap', e = .returned (.slice (some ⟨g', 0, none⟩) n' cap') ∧ OwnP w' w.heap.size g' n' cap' (applyAll m l) ∧ Below w.heap.size w w' := by
  have hl2 := h2.1
  have hsm2 := h2.2.2.1
  have hml : m.length = 0 := by rw [hm]; rfl
  subst hl2
  have hba : Below w.heap.size w (w.alloc (.cells #[] 151)) := (Below.refl _ _).alloc (Nat.le_refl _) _
  have hO1 : OwnP (w.alloc (.cells #[] 151)) w.heap.size w.heap.size 0 0 (applyAll m (l.take 0)) := by rw [hm]; exact ownP_made w w.heap.size (Nat.le_refl _)
  have han := append_nothingP
  have HM := Hid.mk' hml
  clear hm hml
  go_enter Tryz.func128, Tryz.ntmps128
  go_wp2_with (at_builtin; fail)
  go_loopw [5, 6] (fun v i wr => ∃ (k g n cp : Nat), k ≤ l.length ∧ n ≤ m.length + k ∧ i = .int .i64 (k : Int) ∧ v = .slice (some ⟨g, 0, none⟩) n cp ∧ OwnP wr w.heap.size g n cp (applyAll m (l.take k)) ∧ Below w.heap.size w wr) (fun _ i _ => l.length - (intOf i).toNat)
  case atStart => exact ⟨0, _, 0, 0, Nat.zero_le _, Nat.zero_le _, rfl, rfl, hO1, hba⟩
  case round =>
    have hml := HM.out
    clear hO1 hba HM han
    obtain ⟨k, g, n, cp, hk, hn, rfl, rfl, hO, hB⟩ := hrel
    by_cases hlt : k < l.length
    · obtain ⟨b2, off2, ha, hcl⟩ := h2.2.2.2 (by omega)
      subst ha
      obtain ⟨c0, c1, c2⟩ := (h2.below hB).cells k hlt
      have hpk := hsm2 _ (List.getElem_mem hlt)
      have hki : (k : Int) < (l.length : Int) := by omega
      have HU := Hid.mk' (apply_take m l k hlt)
      have hpl := apply1_length (applyAll m (l.take k)) l[k]
      have hOd : OwnP wr.drew w.heap.size g n cp (applyAll m (l.take k)) := hO
      have hcs := hO.cases
      have hul := hO.1
      generalize l[k] = p at *
      generalize applyAll m (l.take k) = u at *
      obtain ⟨z, key, val⟩ := p
      simp only [] at c0 c1 c2 hpk
      clear hcl
      by_cases hz : z = 1
      · subst hz
        have HU2 : Hid (applyAll m (l.take (k + 1)) = putKey key val u) := by show _ = _; rw [HU.out]; rfl
        have hpl2 := (putKey_length key val u).1
        clear HU hpl
        go_wp2_with (at_builtin; fail)
        go_region_held3 (fun w' => w'.cell? ⟨b2, off2 + k * 3 + 1, none⟩ = some (.string key) ∧ w'.cell? ⟨b2, off2 + k * 3 + 2, none⟩ = some (.string val)) (first | (exact keepB2 hb5 (by assumption)) | (go_keep)) (first | (go_at_call 152; refine (spec_putKey g 0 n cp u key val _ hOd.sl hcs.1 (by omega) hpk.2.1 hpk.2.2).mono ?_; rintro e w5 ⟨g5, n5, cp5, rfl, hO5, hb5⟩))
        all_goals
          have hB5 : Below w.heap.size w w5 := hB.drew.trans (hb5.mono hB.size)
          have hO5' := hO5.mono (base' := w.heap.size) hB.size
          rw [← HU2.out] at hO5'
          have hn5 : n5 ≤ m.length + (k + 1) := by have := hO5.1; omega
          have HO5 := Hid.mk' hO5'
          clear hb5 hO5 hO5' hO hOd hB c0 c1 c2
          go_wp2_with (at_builtin; fail)
          go_roundw
          case rel => exact ⟨k + 1, g5, n5, cp5, by omega, hn5, by go_num, rfl, HO5.out, hB5⟩
          case measure => simp [intOf]; omega
      · have hb1 : (z == 1) = false := beq_eq_false_iff_ne.2 hz
        by_cases hz2 : z = 2
        · subst hz2
          have HU2 : Hid (applyAll m (l.take (k + 1)) = delKey key u) := by show _ = _; rw [HU.out]; rfl
          have hpl2 : (delKey key u).length ≤ u.length := List.length_filter_le _ _
          clear HU hpl hz
          go_wp2_with (at_builtin; fail)
          refine (spec_delKey g 0 n cp u key _ hO.sl (by omega)).mono ?_
          rintro e w5 ⟨g5, n5, cp5, rfl, hO5, hb5⟩
          have hB5 : Below w.heap.size w w5 := hB.trans (hb5.mono hB.size)
          have hO5' := hO5.mono (base' := w.heap.size) hB.size
          rw [← HU2.out] at hO5'
          have hn5 : n5 ≤ m.length + (k + 1) := by have := hO5.1; omega
          have HO5 := Hid.mk' hO5'
          clear hb5 hO5 hO5' hO hOd hB c0 c1 c2
          go_wp2_with (at_builtin; fail)
          go_roundw
          case rel => exact ⟨k + 1, g5, n5, cp5, by omega, hn5, by go_num, rfl, HO5.out, hB5⟩
          case measure => simp [intOf]; omega
        · have hb2 : (z == 2) = false := beq_eq_false_iff_ne.2 hz2
          have HU2 : Hid (applyAll m (l.take (k + 1)) = u) := by show _ = _; rw [HU.out]; unfold apply1; rw [if_neg hz, if_neg hz2]
          clear HU hpl hz hz2
          go_wp2_with (at_builtin; fail)
          go_roundw
          case rel => exact ⟨k + 1, g, n, cp, by omega, by omega, by go_num, rfl, by rw [HU2.out]; exact hO, hB⟩
          case measure => simp [intOf]; omega
    · have HE : Hid (l.take k = l) := List.take_of_length_le (by omega)
      go_wp2_with (at_builtin; fail)
      go_ret
      rw [HE.out] at hO
      exact ⟨g, n, cp, rfl, hO, hB⟩
theorem spec_applyV (a : Option Addr) (len cap : Nat) (m : List Pr) (a2 : Option Addr) (len2 cap2 : Nat) (l : List Od) (w : World) (h : SlP w a len m) (hoff : ∀ ad, a = some ad → ad.spot = none) (h2 : SlO w a2 len2 l) (hsz : len + len2 ≤ 1099511627776) :
    Calls Tryz.prog 128 #[.slice a len cap, .slice a2 len2 cap2] w fun e w' =>
      ∃ g' n' cap', e = .returned (.slice (some ⟨g', 0, none⟩) n' cap') ∧ OwnP w' w.heap.size g' n' cap' (applyAll m l) ∧ Below w.heap.size w w' := by
  cases a with
  | none =>
    have h0 : len = 0 := by
      rcases Nat.eq_zero_or_pos len with e | e
      · exact e
      · obtain ⟨b, off, ha, _⟩ := h.2.2.2 e; cases ha
    subst h0
    exact spec_apply_nil cap m a2 len2 cap2 l w (List.eq_nil_of_length_eq_zero h.1) h2 (by omega)
  | some ad =>
    obtain ⟨b, off, sp⟩ := ad
    obtain rfl : sp = none := hoff _ rfl
    exact spec_apply b off len cap m a2 len2 cap2 l w h h2 hsz

theorem take_snocO' (l : List Od) (k : Nat) (h : k < l.length) : l.take (k + 1) = l.take k ++ [l[k]] := List.take_succ_eq_append_getElem h
theorem filter_snocO (f : Od → Bool) (l : List Od) (k : Nat) (h : k < l.length) : (l.take (k + 1)).filter f = (l.take k).filter f ++ if f l[k] then [l[k]] else [] := by
  rw [take_snocO' l k h, List.filter_append]
  cases hf : f l[k] <;> simp [List.filter_cons, hf]
theorem cells_three (w : World) (v1 v2 v3 : Value) (t : TypeId) : ∀ j u, [v1, v2, v3][j]? = some u → (w.alloc (.cells #[v1, v2, v3] t)).cell? ((⟨w.heap.size, 0, none⟩ : Addr).add j) = some u := by
  intro j u hj
  have hl : j < 3 := by have := (List.getElem?_eq_some_iff.1 hj).1; simpa using this
  rw [Addr.add_lit]
  match j, hl with
  | 0, _ => simp at hj; subst hj; simp [go_sem]
  | 1, _ => simp at hj; subst hj; simp [go_sem]
  | 2, _ => simp at hj; subst hj; simp [go_sem]
theorem one_ord_cells (w : World) (p : Od) (t : TypeId) : ∀ j u, (ordVals [p])[j]? = some u → (w.alloc (.cells #[.int .i64 p.1, .string p.2.1, .string p.2.2] t)).cell? ((⟨w.heap.size, 0, none⟩ : Addr).add j) = some u :=
  cells_three w (.int .i64 p.1) (.string p.2.1) (.string p.2.2) t
theorem ownO_app {w' : World} {base n : Nat} {v' : Value} {l : List Od} {p : Od} (hl : l.length = n) (hs : ∀ q ∈ l, smallO q) (hp : smallO p) (h0 : ¬ v' = .slice none 0 0)
    (h : w'.ownsRow base 126 3 v' (n + 1) (ordVals l ++ ordVals [p])) : ∃ g' cap', v' = .slice (some ⟨g', 0, none⟩) (n + 1) cap' ∧ OwnO w' base g' (n + 1) cap' (l ++ [p]) := by
  rw [← ordVals_append] at h
  refine ownO_val (by simp; omega) ?_ h0 h
  intro q hq
  rcases List.mem_append.1 hq with h1 | h1
  · exact hs q h1
  · simp at h1; subst h1; exact hp

end Go.Proofs.YtijplooogplccaaGreat.ords
