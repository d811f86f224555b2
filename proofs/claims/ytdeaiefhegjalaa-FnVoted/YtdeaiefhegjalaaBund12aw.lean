/- The program's keys and pairs: what is right. The program's orders: what is right. The program's places of keys, and what is got. -/
import Derived.Test.YtdeaiefhegjalaaBund12aj
import Derived.Test.YtdeaiefhegjalaaBund12av
namespace Go.Proofs.Ytdeaiefhegjalaa.pairs
open Go Go.RowKit Go.Proofs.Ytdeaiefhegjalaa.base
set_option linter.unusedVariables false
set_option linter.unusedSimpArgs false

set_option maxHeartbeats 400000 in
theorem i_key (p : Pr) (w : World) :
    Calls Try.prog 116 #[.agg #[.string p.1, .string p.2]] w fun e w' => e = .returned (.string p.1) ∧ w' = w.alloc (.cells #[.string p.1, .string p.2] 130) := by
  go_enter Try.func116, Try.ntmps116
  go_wp2
  go_ret
  exact ⟨rfl, rfl⟩

set_option maxHeartbeats 400000 in
theorem i_keySign (c : Nat) (w : World) (hc : c < 256) :
    Calls Try.prog 99 #[.int .u8 (c : Int)] w fun e w' => e = .returned (.bool (keyCh c)) ∧ w' = w := by
  by_cases h1 : 97 ≤ c
  · by_cases h2 : c ≤ 122
    · go_enter Try.func99, Try.ntmps99
      go_wp2
      go_ret
      exact ⟨ret_bool (by simp [keyCh, h1, h2]), rfl⟩
    · have h3 : ¬ c ≤ 57 := by omega
      have h4 : 48 ≤ c := by omega
      go_enter Try.func99, Try.ntmps99
      go_wp2
      go_ret
      exact ⟨ret_bool (by simp [keyCh, h2, h3]; omega), rfl⟩
  · by_cases h2 : 48 ≤ c
    · by_cases h3 : c ≤ 57
      · go_enter Try.func99, Try.ntmps99
        go_wp2
        go_ret
        exact ⟨ret_bool (by simp [keyCh, h2, h3]; omega), rfl⟩
      · go_enter Try.func99, Try.ntmps99
        go_wp2
        go_ret
        exact ⟨ret_bool (by simp [keyCh, h1, h3]; omega), rfl⟩
    · go_enter Try.func99, Try.ntmps99
      go_wp2
      go_ret
      exact ⟨ret_bool (by simp [keyCh, h1, h2]), rfl⟩

set_option maxRecDepth 100000 in
set_option maxHeartbeats 1000000 in
theorem impl_keyOk (s : ByteArray) (w : World) (hs : s.size ≤ 1099511627776) :
    Calls Try.prog 96 #[.string s] w fun e w' => e = .returned (.bool (keyOk s)) ∧ Below w.heap.size w w' := by
  by_cases h0 : s.size < 1
  · go_enter Try.func96, Try.ntmps96
    go_wp2_with fail
    go_ret
    exact ⟨ret_bool (by simp [keyOk]; omega), Below.refl _ _⟩
  by_cases h12 : 12 < s.size
  · go_enter Try.func96, Try.ntmps96
    go_wp2_with fail
    go_ret
    exact ⟨ret_bool (by simp [keyOk]; omega), Below.refl _ _⟩
  have HZ : Hid (decide (1 ≤ s.size ∧ s.size ≤ 12) = true) := by show _ = _; simp; omega
  generalize hR : keyAll s.data.toList = R
  have HR := Hid.mk' hR
  clear hR
  have hconv := Lib.run_convert_string_bytes (P := Try.prog) w 9 22 5 s Try.underlying9 Try.underlying22 Try.underlying5
  have hbts := bts_new w s
  have hBB := below_bytesWorld w 5 s
  go_enter Try.func96, Try.ntmps96
  go_wp2_with fail
  generalize Lib.bytesWorld w 5 s = w1 at *
  go_loop [16] (fun i => ∃ k : Nat, k ≤ s.size ∧ i = .int .i64 (k : Int) ∧ keyAll (s.data.toList.drop k) = R) (fun i => s.size - (intOf i).toNat)
  case atStart => exact ⟨0, Nat.zero_le _, rfl, HR.out⟩
  case round =>
    obtain ⟨k, hk, rfl, hr⟩ := hrel
    clear hconv
    by_cases hlt : k < s.size
    · have hst := keyAll_drop s k hlt
      rw [hr] at hst
      have hc := s[k].toNat_lt
      have hcl := hbts.2 k hlt
      generalize hC : s[k].toNat = c at *
      have hki : (k : Int) < (s.size : Int) := by omega
      have hl := i_keySign c w1 (by omega)
      cases hq : keyCh c
      · rw [hq] at hl hst
        have HF : Hid (R = false) := by show _ = _; simpa using hst
        have HL := Hid.mk' hl
        clear hl hst hr hC
        go_wp2_with fail
        refine HL.out.mono ?_
        rintro e w2 ⟨rfl, rfl⟩
        go_wp2_with fail
        go_ret
        exact ⟨ret_bool (by unfold keyOk; rw [HR.out, HF.out]; rfl), hBB⟩
      · rw [hq] at hl hst
        have HF : Hid (keyAll (s.data.toList.drop (k + 1)) = R) := by show _ = _; simpa using hst.symm
        have HL := Hid.mk' hl
        clear hl hst hr hC
        go_wp2_with fail
        refine HL.out.mono ?_
        rintro e w2 ⟨rfl, rfl⟩
        go_wp2_with fail
        go_round
        case rel => exact ⟨k + 1, by omega, by go_num, HF.out⟩
        case measure => simp [intOf]; omega
    · have HF : Hid (R = true) := by show _ = _; rw [← hr, List.drop_eq_nil_of_le (by simp; omega)]; rfl
      clear hr
      go_wp2_with fail
      go_ret
      exact ⟨ret_bool (by unfold keyOk; rw [HR.out, HF.out, HZ.out]; rfl), hBB⟩

set_option maxHeartbeats 400000 in
theorem impl_pairOk (p : Pr) (w : World) (hp : small p) (hs : p.1.size ≤ 1099511627776) :
    Calls Try.prog 95 #[.agg #[.string p.1, .string p.2]] w fun e w' => e = .returned (.bool (pairOk p)) ∧ Below w.heap.size w w' := by
  have h2 := hp.2
  unfold maxLen at h2
  have hba : Below w.heap.size w (w.alloc (.cells #[.string p.1, .string p.2] 130)) := (Below.refl _ _).alloc (Nat.le_refl _) _
  have hk := impl_keyOk p.1 (w.alloc (.cells #[.string p.1, .string p.2] 130)) hs
  cases hK : keyOk p.1
  · rw [hK] at hk
    have HK := Hid.mk' hk
    have H1 := Hid.mk' hK
    clear hk hK
    go_enter Try.func95, Try.ntmps95
    go_wp2_with fail
    refine HK.out.mono ?_
    rintro e w1 ⟨rfl, hb1⟩
    go_wp2_with fail
    go_ret
    exact ⟨ret_bool (by unfold pairOk; rw [H1.out]; rfl), hba.trans (hb1.mono hba.size)⟩
  · rw [hK] at hk
    have HK := Hid.mk' hk
    have H1 := Hid.mk' hK
    clear hk hK
    go_enter Try.func95, Try.ntmps95
    go_wp2_with fail
    refine HK.out.mono ?_
    rintro e w1 ⟨rfl, hb1⟩
    have hc := bcell hb1
    go_wp2_with fail
    go_ret
    exact ⟨ret_bool (by unfold pairOk; rw [H1.out]; simp; omega), hba.trans (hb1.mono hba.size)⟩

end Go.Proofs.Ytdeaiefhegjalaa.pairs

namespace Go.Proofs.Ytdeaiefhegjalaa.ords
open Go Go.RowKit Go.Proofs.Ytdeaiefhegjalaa.base Go.Proofs.Ytdeaiefhegjalaa.pairs
set_option linter.unusedVariables false
set_option linter.unusedSimpArgs false

/-! ### orders that rise -/
def riseOB : List Od → Bool
  | [] => true
  | p :: l => (match l.head? with | none => true | some q => ltB p.2.1 q.2.1) && riseOB l
theorem opsFrom_some (k : ByteArray) (l : List Od) : opsFrom (some k) l = ((match l.head? with | none => true | some q => ltB k q.2.1) && l.all odOk && riseOB l) := by
  induction l generalizing k with
  | nil => rfl
  | cons p l ih =>
    simp only [opsFrom, ih, List.head?_cons, List.all_cons, riseOB]
    cases odOk p <;> cases ltB k p.2.1 <;> cases l.all odOk <;> cases riseOB l <;> simp
theorem opsFrom_split (l : List Od) : opsFrom none l = (l.all odOk && riseOB l) := by
  cases l with
  | nil => rfl
  | cons p l =>
    simp only [opsFrom, opsFrom_some, List.all_cons, riseOB]
    cases odOk p <;> cases l.all odOk <;> cases riseOB l <;> simp
theorem riseOB_step (l : List Od) (j : Nat) (h1 : 1 ≤ j) (h : j < l.length) : riseOB (l.drop (j - 1)) = (ltB l[j - 1].2.1 l[j].2.1 && riseOB (l.drop j)) := by
  rw [List.drop_eq_getElem_cons (by omega : j - 1 < l.length), riseOB, show j - 1 + 1 = j by omega, List.head?_drop, List.getElem?_eq_getElem h]
theorem riseOB_end (l : List Od) (j : Nat) (h : l.length ≤ j) : riseOB (l.drop (j - 1)) = true := by
  by_cases h2 : j - 1 < l.length
  · rw [List.drop_eq_getElem_cons h2, riseOB, List.drop_eq_nil_of_le (by omega)]; rfl
  · rw [List.drop_eq_nil_of_le (by omega)]; rfl
theorem all_dropO (l : List Od) (k : Nat) (h : k < l.length) : (l.drop k).all odOk = (odOk l[k] && (l.drop (k + 1)).all odOk) := by
  rw [List.drop_eq_getElem_cons h, List.all_cons]

set_option maxHeartbeats 400000 in
theorem i_keyO (p : Od) (w : World) :
    Calls Try.prog 115 #[.agg #[.int .i64 p.1, .string p.2.1, .string p.2.2]] w fun e w' => e = .returned (.string p.2.1) ∧ w' = w.alloc (.cells #[.int .i64 p.1, .string p.2.1, .string p.2.2] 76) := by
  go_enter Try.func115, Try.ntmps115
  go_wp2
  go_ret
  exact ⟨rfl, rfl⟩
theorem i_methO (z : Int) (x y : ByteArray) (w : World) : (method 250 76 (.agg #[.int .i64 z, .string x, .string y]) "loop.example/g00244/impl.key").run Try.prog w = .ok (115, .agg #[.int .i64 z, .string x, .string y]) w := by kernel_rfl

set_option maxRecDepth 100000 in
set_option maxHeartbeats 1000000 in
theorem i_opOk (o : Od) (w : World) (ho : smallO o) (hs : o.2.1.size ≤ 1099511627776) :
    Calls Try.prog 82 #[.agg #[.int .i64 o.1, .string o.2.1, .string o.2.2]] w fun e w' => e = .returned (.bool (odOk o)) ∧ Below w.heap.size w w' := by
  obtain ⟨z, k, v⟩ := o
  have h2 := ho.2
  simp only [] at h2 hs ⊢
  have hba : Below w.heap.size w (w.alloc (.cells #[.int .i64 z, .string k, .string v] 76)) := (Below.refl _ _).alloc (Nat.le_refl _) _
  have HK := Hid.mk' (impl_keyOk k (w.alloc (.cells #[.int .i64 z, .string k, .string v] 76)) hs)
  have HP := Hid.mk' (impl_pairOk (k, v) (w.alloc (.cells #[.int .i64 z, .string k, .string v] 76)) h2 hs)
  by_cases hz1 : z = 1
  · subst hz1
    have HR : Hid (odOk (1, k, v) = pairOk (k, v)) := by show _ = _; unfold odOk pairOk; simp
    generalize pairOk (k, v) = K at *
    clear HK ho h2 hs
    go_enter Try.func82, Try.ntmps82
    go_wp2_with fail
    refine HP.out.mono ?_
    rintro e w1 ⟨rfl, hb1⟩
    go_wp2_with fail
    go_ret
    exact ⟨ret_bool HR.out.symm, hba.trans (hb1.mono hba.size)⟩
  by_cases hz3 : z = 3
  · subst hz3
    have HR : Hid (odOk (3, k, v) = pairOk (k, v)) := by show _ = _; unfold odOk pairOk; simp
    generalize pairOk (k, v) = K at *
    clear HK ho h2 hs
    go_enter Try.func82, Try.ntmps82
    go_wp2_with fail
    refine HP.out.mono ?_
    rintro e w1 ⟨rfl, hb1⟩
    go_wp2_with fail
    go_ret
    exact ⟨ret_bool HR.out.symm, hba.trans (hb1.mono hba.size)⟩
  have hb1 : (z == 1) = false := beq_eq_false_iff_ne.2 hz1
  have hb3 : (z == 3) = false := beq_eq_false_iff_ne.2 hz3
  by_cases hz2 : z = 2
  · subst hz2
    clear HP hz1 hz3 ho h2 hs hb1 hb3
    by_cases hv : v.size = 0
    · have HR : Hid (odOk (2, k, v) = keyOk k) := by show _ = _; unfold odOk; simp [hv]
      obtain rfl := size_empty hv
      clear hv
      generalize keyOk k = K at *
      cases K
      all_goals
        go_enter Try.func82, Try.ntmps82
        go_wp2_with fail
        refine HK.out.mono ?_
        rintro e w1 ⟨rfl, hb1⟩
        have hc := bcell hb1
        go_wp2_with fail
        go_ret
        exact ⟨ret_bool HR.out.symm, hba.trans (hb1.mono hba.size)⟩
    · have HR : Hid (odOk (2, k, v) = false) := by show _ = _; unfold odOk; simp [hv]
      obtain ⟨hq, hq2⟩ := not_empty hv
      clear hv
      generalize keyOk k = K at *
      cases K
      all_goals
        go_enter Try.func82, Try.ntmps82
        go_wp2_with fail
        refine HK.out.mono ?_
        rintro e w1 ⟨rfl, hb1⟩
        have hc := bcell hb1
        go_wp2_with fail
        go_ret
        exact ⟨ret_bool HR.out.symm, hba.trans (hb1.mono hba.size)⟩
  · have hb2 : (z == 2) = false := beq_eq_false_iff_ne.2 hz2
    have HR : Hid (odOk (z, k, v) = false) := by
      show _ = _
      unfold odOk
      rw [decide_eq_false (by simp only []; omega)]; rfl
    clear HP HK hz1 hz2 hz3 ho h2 hs
    go_enter Try.func82, Try.ntmps82
    go_wp2_with fail
    go_ret
    exact ⟨ret_bool HR.out.symm, hba⟩

set_option maxRecDepth 100000 in
set_option maxHeartbeats 2000000 in
theorem i_risesO (b off cap : Nat) (l : List Od) (w : World) (h : SlO w (some ⟨b, off, none⟩) l.length l) (hsz : l.length ≤ 1099511627776) :
    Calls Try.prog 83 #[.slice (some ⟨b, off, none⟩) l.length cap] w fun e w' => e = .returned (.bool (riseOB l)) ∧ Below w.heap.size w w' := by
  have hmt := i_methO
  generalize hR : riseOB l = R
  have HR := Hid.mk' hR
  clear hR
  go_enter Try.func83, Try.ntmps83
  go_wp2_with fail
  go_loopw [3] (fun i wr => ∃ j : Nat, 1 ≤ j ∧ j ≤ l.length + 1 ∧ i = .int .i64 (j : Int) ∧ riseOB (l.drop (j - 1)) = R ∧ Below w.heap.size w wr) (fun i _ => l.length + 1 - (intOf i).toNat)
  case atStart => exact ⟨1, Nat.le_refl _, by omega, rfl, HR.out, Below.refl _ _⟩
  case round =>
    obtain ⟨j, hj1, hj2, rfl, hr, hB⟩ := hrel
    by_cases hlt : j < l.length
    · have hS := h.below hB
      have hbl := hS.lt (by omega)
      have hst := riseOB_step l j hj1 hlt
      rw [hr] at hst
      obtain ⟨c1, c2, c5⟩ := hS.cells j hlt
      obtain ⟨c3, c4, c6⟩ := hS.cells (j - 1) (by omega)
      have hji : (j : Int) < (l.length : Int) := by omega
      obtain ⟨k, hk⟩ : ∃ k, j - 1 = k := ⟨_, rfl⟩
      have hkw : (j : Int) - 1 = (k : Int) := by omega
      have hki : (k : Int) < (l.length : Int) := by omega
      have hne : Op.bytesLess l[j - 1].2.1.toList l[j].2.1.toList = ltB l[j - 1].2.1 l[j].2.1 := rfl
      generalize l[j] = p at *
      generalize l[j - 1] = q at *
      rw [hk] at c3 c4 c6
      have o1 := last.On.cell c1 hbl
      have o2 := last.On.cell c2 hbl
      have o3 := last.On.cell c3 hbl
      have o4 := last.On.cell c4 hbl
      have o5 := last.On.cell c5 hbl
      have o6 := last.On.cell c6 hbl
      cases hL : ltB q.2.1 p.2.1
      all_goals
        rw [hL] at hst hne
        have HST := Hid.mk' hst
        clear hst hr hL hS hk
        go_wp2_with fail
        have hinh := last.On.inh wr.heap.size wr
        have hc1 : ∀ x : last.On wr.heap.size wr, Calls Try.prog 115 #[.agg #[.int .i64 p.1, .string p.2.1, .string p.2.2]] x.w fun e w' => e = .returned (.string p.2.1) ∧ ∃ y : last.On wr.heap.size wr, w' = y.w := fun x => last.Calls.on x (Nat.le_refl _) ((i_keyO p x.w).mono fun e w' ⟨he, hw⟩ => ⟨he, by rw [hw]; exact (Below.refl _ _).alloc (Nat.le_refl _) _⟩)
        have hc2 : ∀ x : last.On wr.heap.size wr, Calls Try.prog 115 #[.agg #[.int .i64 q.1, .string q.2.1, .string q.2.2]] x.w fun e w' => e = .returned (.string q.2.1) ∧ ∃ y : last.On wr.heap.size wr, w' = y.w := fun x => last.Calls.on x (Nat.le_refl _) ((i_keyO q x.w).mono fun e w' ⟨he, hw⟩ => ⟨he, by rw [hw]; exact (Below.refl _ _).alloc (Nat.le_refl _) _⟩)
        refine last.wp_region_on wr.heap.size (by kernel_rfl) (by kernel_rfl) ?_
        repeat (go_big_quiet_step ((go_at_call 115; first | exact hc1 _ | exact hc2 _)))
        refine wpQuiet_nil ?_
        intro w5 hw5
        obtain ⟨x5, hw5⟩ := hw5
        subst hw5
        have hB5 : Below w.heap.size w x5.w := hB.trans (x5.2.mono hB.size)
        go_wp2_with fail
      · go_ret
        exact ⟨ret_bool (by rw [HST.out]; rfl), hB5⟩
      · go_roundw
        case rel => exact ⟨j + 1, by omega, by omega, by go_num, by rw [HST.out]; simp, hB5⟩
        case measure => simp [intOf]; omega
    · have HF : Hid (R = true) := by show _ = _; rw [← hr]; exact riseOB_end l j (by omega)
      clear hr
      go_wp2_with fail
      go_ret
      exact ⟨ret_bool (by rw [HF.out]), hB⟩

set_option maxRecDepth 100000 in
set_option maxHeartbeats 2000000 in
theorem impl_opsOk (b off len cap : Nat) (l : List Od) (w : World) (h : SlO w (some ⟨b, off, none⟩) len l) (hks : ∀ p ∈ l, p.2.1.size ≤ 1099511627776) :
    Calls Try.prog 58 #[.slice (some ⟨b, off, none⟩) len cap] w fun e w' => e = .returned (.bool (opsOk l)) ∧ Below w.heap.size w w' := by
  have hl := h.1
  have hm := h.2.1
  have hsm := h.2.2.1
  subst hl
  unfold maxLen at hm
  by_cases h1 : l.length < 1
  · go_enter Try.func58, Try.ntmps58
    go_wp2_with fail
    go_ret
    exact ⟨ret_bool (by unfold opsOk; rw [decide_eq_false (by omega : ¬ (1 ≤ l.length ∧ l.length ≤ 8))]; simp), Below.refl _ _⟩
  by_cases h8 : 8 < l.length
  · go_enter Try.func58, Try.ntmps58
    go_wp2_with fail
    go_ret
    exact ⟨ret_bool (by unfold opsOk; rw [decide_eq_false (by omega : ¬ (1 ≤ l.length ∧ l.length ≤ 8))]; simp), Below.refl _ _⟩
  · have HP : Hid (opsOk l = (l.all odOk && riseOB l)) := by show _ = _; unfold opsOk; rw [opsFrom_split, decide_eq_true (by omega : 1 ≤ l.length ∧ l.length ≤ 8)]; simp
    generalize hA : l.all odOk = A
    have HA := Hid.mk' hA
    clear hA
    go_enter Try.func58, Try.ntmps58
    go_wp2_with fail
    go_loopw [15] (fun i wr => ∃ k : Nat, k ≤ l.length ∧ i = .int .i64 (k : Int) ∧ (l.drop k).all odOk = A ∧ Below w.heap.size w wr) (fun i _ => l.length - (intOf i).toNat)
    case atStart => exact ⟨0, Nat.zero_le _, rfl, HA.out, Below.refl _ _⟩
    case round =>
      obtain ⟨k, hk, rfl, hr, hB⟩ := hrel
      by_cases hlt : k < l.length
      · obtain ⟨c1, c2, c3⟩ := (h.below hB).cells k hlt
        have hpk := hsm _ (List.getElem_mem hlt)
        have hks' := hks _ (List.getElem_mem hlt)
        have hki : (k : Int) < (l.length : Int) := by omega
        have hst := all_dropO l k hlt
        rw [hr] at hst
        have hcall := fun wx => i_opOk l[k] wx hpk hks'
        have hBA : Below w.heap.size w (wr.alloc (.cells #[.int .i64 l[k].1, .string l[k].2.1, .string l[k].2.2] 76)) := hB.alloc hB.size _
        generalize l[k] = p at *
        cases hP : odOk p
        all_goals
          rw [hP] at hst hcall
          have HST := Hid.mk' hst
          have HC := Hid.mk' hcall
          clear hst hr hcall hP
          go_wp2_with fail
          refine (HC.out _).mono ?_
          rintro e w3 ⟨rfl, hb3⟩
          have hB3 : Below w.heap.size w w3 := hBA.trans (hb3.mono hBA.size)
          clear hb3 hBA hB c1 c2 c3
          go_wp2_with fail
        · go_ret
          exact ⟨ret_bool (by rw [HP.out, HA.out, HST.out]; rfl), hB3⟩
        · go_roundw
          case rel => exact ⟨k + 1, by omega, by go_num, by rw [HST.out]; simp, hB3⟩
          case measure => simp [intOf]; omega
      · have HF : Hid (A = true) := by show _ = _; rw [← hr, List.drop_eq_nil_of_le (by omega)]; rfl
        have HI := Hid.mk' (i_risesO b off cap l wr (h.below hB) (by omega))
        clear hr
        go_wp2_with fail
        refine HI.out.mono ?_
        rintro e w3 ⟨rfl, hb3⟩
        have hB3 : Below w.heap.size w w3 := hB.trans (hb3.mono hB.size)
        clear hb3
        go_wp2_with fail
        go_ret
        exact ⟨ret_bool (by rw [HP.out, HA.out, HF.out]; simp), hB3⟩

end Go.Proofs.Ytdeaiefhegjalaa.ords

namespace Go.Proofs.Ytdeaiefhegjalaa.pairs
open Go Go.RowKit Go.Proofs.Ytdeaiefhegjalaa.base
set_option linter.unusedVariables false
set_option linter.unusedSimpArgs false

theorem i_meth (x y : ByteArray) (w : World) : (method 250 130 (.agg #[.string x, .string y]) "loop.example/g00244/impl.key").run Try.prog w = .ok (116, .agg #[.string x, .string y]) w := by kernel_rfl
theorem nth_take_none {key : ByteArray} {l : List Pr} {k : Nat} (hn : getKey key (l.take k) = none) (hk : k ≤ l.length) (j : Nat) (hj : j < k) : (l[j]'(by omega)).1 ≠ key := by
  have := getKey_none hn j (by simp; omega)
  rwa [List.getElem_take] at this
theorem bel2 {w wr : World} (hB : Below w.heap.size w wr) (x y : Obj) : Below w.heap.size w ((wr.alloc x).alloc y) := (hB.alloc hB.size _).alloc (le_alloc _ _ hB.size) _



theorem getKey_place {key : ByteArray} {l : List Pr} {v : ByteArray} (h : getKey key l = some v) : ∃ n, ∃ hn : n < l.length, l[n].1 = key ∧ l[n].2 = v ∧ getKey key (l.take n) = none := by
  induction l with
  | nil => cases h
  | cons p l ih =>
    rw [getKey] at h
    by_cases hp : p.1 = key
    · rw [if_pos hp] at h
      exact ⟨0, by simp, hp, by simpa using h, rfl⟩
    · rw [if_neg hp] at h
      obtain ⟨n, hn, h1, h2, h3⟩ := ih h
      refine ⟨n + 1, by simp; omega, by simpa using h1, by simpa using h2, ?_⟩
      rw [List.take_succ_cons, getKey, if_neg hp]
      exact h3


end Go.Proofs.Ytdeaiefhegjalaa.pairs
