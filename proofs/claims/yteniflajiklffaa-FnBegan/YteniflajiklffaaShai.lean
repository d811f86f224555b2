/- The program's keys and pairs: what is right. The program's orders: what is right. The program's places of keys, and what is got. The program's putting of keys. The program's pairs between two ends. The program's deleting of keys: a map counts the keys, and the key is deleted from it. The program's orders: what is met, at which shard, what is done. A map of rows of orders that the call itself made: small facts on worlds; no function of the program is named here. The contract of slices.Sort at []int, as the library proves it, at this program. -/
import Derived.Test.YteniflajiklffaaShab
import Derived.Test.YteniflajiklffaaShah
import Derived.Test.YteniflajiklffaaShac
import Derived.Maps.OwnSet
import Derived.Maps.OwnOps
import Derived.Maps.Views
import Derived.Maps.AppendAt
import Derived.Maps.RangeWalk
import Derived.Shelf.Sort.Plain
import Derived.Shelf.Slices.In.SortNone
import Derived.Test.YteniflajiklffaaProg
namespace Go.Proofs.Yteniflajiklffaa.pairs
open Go Go.RowKit Go.Proofs.Yteniflajiklffaa.base
set_option linter.unusedVariables false
set_option linter.unusedSimpArgs false

set_option maxHeartbeats 400000 in
theorem i_keySign (c : Nat) (w : World) (hc : c < 256) :
    Calls Try.prog 132 #[.int .u8 (c : Int)] w fun e w' => e = .returned (.bool (keyCh c)) ∧ w' = w := by
  by_cases h1 : 97 ≤ c
  · by_cases h2 : c ≤ 122
    · go_enter Try.func132, Try.ntmps132
      go_wp2
      go_ret
      exact ⟨ret_bool (by simp [keyCh, h1, h2]), rfl⟩
    · have h3 : ¬ c ≤ 57 := by omega
      have h4 : 48 ≤ c := by omega
      go_enter Try.func132, Try.ntmps132
      go_wp2
      go_ret
      exact ⟨ret_bool (by simp [keyCh, h2, h3]; omega), rfl⟩
  · by_cases h2 : 48 ≤ c
    · by_cases h3 : c ≤ 57
      · go_enter Try.func132, Try.ntmps132
        go_wp2
        go_ret
        exact ⟨ret_bool (by simp [keyCh, h2, h3]; omega), rfl⟩
      · go_enter Try.func132, Try.ntmps132
        go_wp2
        go_ret
        exact ⟨ret_bool (by simp [keyCh, h1, h3]; omega), rfl⟩
    · go_enter Try.func132, Try.ntmps132
      go_wp2
      go_ret
      exact ⟨ret_bool (by simp [keyCh, h1, h2]), rfl⟩

set_option maxRecDepth 100000 in
set_option maxHeartbeats 1000000 in
theorem impl_keyOk (s : ByteArray) (w : World) (hs : s.size ≤ 1099511627776) :
    Calls Try.prog 101 #[.string s] w fun e w' => e = .returned (.bool (keyOk s)) ∧ Below w.heap.size w w' := by
  by_cases h0 : s.size < 1
  · go_enter Try.func101, Try.ntmps101
    go_wp2_with fail
    go_ret
    exact ⟨ret_bool (by simp [keyOk]; omega), Below.refl _ _⟩
  by_cases h12 : 12 < s.size
  · go_enter Try.func101, Try.ntmps101
    go_wp2_with fail
    go_ret
    exact ⟨ret_bool (by simp [keyOk]; omega), Below.refl _ _⟩
  have HZ : Hid (decide (1 ≤ s.size ∧ s.size ≤ 12) = true) := by show _ = _; simp; omega
  generalize hR : keyAll s.data.toList = R
  have HR := Hid.mk' hR
  clear hR
  have hconv := Lib.run_convert_string_bytes (P := Try.prog) w 9 22 5 s Try.underlying9 Try.underlying22 Try.underlying5
  have hbts := bts_new w s
  have hBB := below_bytesWorld w 5 s
  go_enter Try.func101, Try.ntmps101
  go_wp2_with fail
  generalize Lib.bytesWorld w 5 s = w1 at *
  go_loop [16] (fun i => ∃ k : Nat, k ≤ s.size ∧ i = .int .i64 (k : Int) ∧ keyAll (s.data.toList.drop k) = R) (fun i => s.size - (intOf i).toNat)
  case atStart => exact ⟨0, Nat.zero_le _, rfl, HR.out⟩
  case round =>
    obtain ⟨k, hk, rfl, hr⟩ := hrel
    clear hconv
    by_cases hlt : k < s.size
    · have hst := keyAll_drop s k hlt
      rw [hr] at hst
      have hc := s[k].toNat_lt
      have hcl := hbts.2 k hlt
      generalize hC : s[k].toNat = c at *
      have hki : (k : Int) < (s.size : Int) := by omega
      have hl := i_keySign c w1 (by omega)
      cases hq : keyCh c
      · rw [hq] at hl hst
        have HF : Hid (R = false) := by show _ = _; simpa using hst
        have HL := Hid.mk' hl
        clear hl hst hr hC
        go_wp2_with fail
        refine HL.out.mono ?_
        rintro e w2 ⟨rfl, rfl⟩
        go_wp2_with fail
        go_ret
        exact ⟨ret_bool (by unfold keyOk; rw [HR.out, HF.out]; rfl), hBB⟩
      · rw [hq] at hl hst
        have HF : Hid (keyAll (s.data.toList.drop (k + 1)) = R) := by show _ = _; simpa using hst.symm
        have HL := Hid.mk' hl
        clear hl hst hr hC
        go_wp2_with fail
        refine HL.out.mono ?_
        rintro e w2 ⟨rfl, rfl⟩
        go_wp2_with fail
        go_round
        case rel => exact ⟨k + 1, by omega, by go_num, HF.out⟩
        case measure => simp [intOf]; omega
    · have HF : Hid (R = true) := by show _ = _; rw [← hr, List.drop_eq_nil_of_le (by simp; omega)]; rfl
      clear hr
      go_wp2_with fail
      go_ret
      exact ⟨ret_bool (by unfold keyOk; rw [HR.out, HF.out, HZ.out]; rfl), hBB⟩

set_option maxHeartbeats 400000 in
theorem impl_pairOk (p : Pr) (w : World) (hp : small p) (hs : p.1.size ≤ 1099511627776) :
    Calls Try.prog 100 #[.agg #[.string p.1, .string p.2]] w fun e w' => e = .returned (.bool (pairOk p)) ∧ Below w.heap.size w w' := by
  have h2 := hp.2
  unfold maxLen at h2
  have hba : Below w.heap.size w (w.alloc (.cells #[.string p.1, .string p.2] 102)) := (Below.refl _ _).alloc (Nat.le_refl _) _
  have hk := impl_keyOk p.1 (w.alloc (.cells #[.string p.1, .string p.2] 102)) hs
  cases hK : keyOk p.1
  · rw [hK] at hk
    have HK := Hid.mk' hk
    have H1 := Hid.mk' hK
    clear hk hK
    go_enter Try.func100, Try.ntmps100
    go_wp2_with fail
    refine HK.out.mono ?_
    rintro e w1 ⟨rfl, hb1⟩
    go_wp2_with fail
    go_ret
    exact ⟨ret_bool (by unfold pairOk; rw [H1.out]; rfl), hba.trans (hb1.mono hba.size)⟩
  · rw [hK] at hk
    have HK := Hid.mk' hk
    have H1 := Hid.mk' hK
    clear hk hK
    go_enter Try.func100, Try.ntmps100
    go_wp2_with fail
    refine HK.out.mono ?_
    rintro e w1 ⟨rfl, hb1⟩
    have hc := bcell hb1
    go_wp2_with fail
    go_ret
    exact ⟨ret_bool (by unfold pairOk; rw [H1.out]; simp; omega), hba.trans (hb1.mono hba.size)⟩

end Go.Proofs.Yteniflajiklffaa.pairs

namespace Go.Proofs.Yteniflajiklffaa.ords
open Go Go.RowKit Go.Proofs.Yteniflajiklffaa.base Go.Proofs.Yteniflajiklffaa.pairs
set_option linter.unusedVariables false
set_option linter.unusedSimpArgs false

/-! ### orders that rise -/
def riseOB : List Od → Bool
  | [] => true
  | p :: l => (match l.head? with | none => true | some q => ltB p.2.1 q.2.1) && riseOB l
theorem opsFrom_some (k : ByteArray) (l : List Od) : opsFrom (some k) l = ((match l.head? with | none => true | some q => ltB k q.2.1) && l.all odOk && riseOB l) := by
  induction l generalizing k with
  | nil => rfl
  | cons p l ih =>
    simp only [opsFrom, ih, List.head?_cons, List.all_cons, riseOB]
    cases odOk p <;> cases ltB k p.2.1 <;> cases l.all odOk <;> cases riseOB l <;> simp
theorem opsFrom_split (l : List Od) : opsFrom none l = (l.all odOk && riseOB l) := by
  cases l with
  | nil => rfl
  | cons p l =>
    simp only [opsFrom, opsFrom_some, List.all_cons, riseOB]
    cases odOk p <;> cases l.all odOk <;> cases riseOB l <;> simp
theorem riseOB_step (l : List Od) (j : Nat) (h1 : 1 ≤ j) (h : j < l.length) : riseOB (l.drop (j - 1)) = (ltB l[j - 1].2.1 l[j].2.1 && riseOB (l.drop j)) := by
  rw [List.drop_eq_getElem_cons (by omega : j - 1 < l.length), riseOB, show j - 1 + 1 = j by omega, List.head?_drop, List.getElem?_eq_getElem h]
theorem riseOB_end (l : List Od) (j : Nat) (h : l.length ≤ j) : riseOB (l.drop (j - 1)) = true := by
  by_cases h2 : j - 1 < l.length
  · rw [List.drop_eq_getElem_cons h2, riseOB, List.drop_eq_nil_of_le (by omega)]; rfl
  · rw [List.drop_eq_nil_of_le (by omega)]; rfl
theorem all_dropO (l : List Od) (k : Nat) (h : k < l.length) : (l.drop k).all odOk = (odOk l[k] && (l.drop (k + 1)).all odOk) := by
  rw [List.drop_eq_getElem_cons h, List.all_cons]

set_option maxHeartbeats 400000 in
theorem i_keyO (p : Od) (w : World) :
    Calls Try.prog 163 #[.agg #[.int .i64 p.1, .string p.2.1, .string p.2.2]] w fun e w' => e = .returned (.string p.2.1) ∧ w' = w.alloc (.cells #[.int .i64 p.1, .string p.2.1, .string p.2.2] 111) := by
  go_enter Try.func163, Try.ntmps163
  go_wp2
  go_ret
  exact ⟨rfl, rfl⟩
theorem i_methO (z : Int) (x y : ByteArray) (w : World) : (method 306 111 (.agg #[.int .i64 z, .string x, .string y]) "loop.example/g00244/impl.key").run Try.prog w = .ok (163, .agg #[.int .i64 z, .string x, .string y]) w := by kernel_rfl

set_option maxRecDepth 100000 in
set_option maxHeartbeats 1000000 in
theorem i_opOk (o : Od) (w : World) (ho : smallO o) (hs : o.2.1.size ≤ 1099511627776) :
    Calls Try.prog 58 #[.agg #[.int .i64 o.1, .string o.2.1, .string o.2.2]] w fun e w' => e = .returned (.bool (odOk o)) ∧ Below w.heap.size w w' := by
  obtain ⟨z, k, v⟩ := o
  have h2 := ho.2
  simp only [] at h2 hs ⊢
  have hba : Below w.heap.size w (w.alloc (.cells #[.int .i64 z, .string k, .string v] 111)) := (Below.refl _ _).alloc (Nat.le_refl _) _
  have HK := Hid.mk' (impl_keyOk k (w.alloc (.cells #[.int .i64 z, .string k, .string v] 111)) hs)
  have HP := Hid.mk' (impl_pairOk (k, v) (w.alloc (.cells #[.int .i64 z, .string k, .string v] 111)) h2 hs)
  by_cases hz1 : z = 1
  · subst hz1
    have HR : Hid (odOk (1, k, v) = pairOk (k, v)) := by show _ = _; unfold odOk pairOk; simp
    generalize pairOk (k, v) = K at *
    clear HK ho h2 hs
    go_enter Try.func58, Try.ntmps58
    go_wp2_with fail
    refine HP.out.mono ?_
    rintro e w1 ⟨rfl, hb1⟩
    go_wp2_with fail
    go_ret
    exact ⟨ret_bool HR.out.symm, hba.trans (hb1.mono hba.size)⟩
  by_cases hz3 : z = 3
  · subst hz3
    have HR : Hid (odOk (3, k, v) = pairOk (k, v)) := by show _ = _; unfold odOk pairOk; simp
    generalize pairOk (k, v) = K at *
    clear HK ho h2 hs
    go_enter Try.func58, Try.ntmps58
    go_wp2_with fail
    refine HP.out.mono ?_
    rintro e w1 ⟨rfl, hb1⟩
    go_wp2_with fail
    go_ret
    exact ⟨ret_bool HR.out.symm, hba.trans (hb1.mono hba.size)⟩
  have hb1 : (z == 1) = false := beq_eq_false_iff_ne.2 hz1
  have hb3 : (z == 3) = false := beq_eq_false_iff_ne.2 hz3
  by_cases hz2 : z = 2
  · subst hz2
    clear HP hz1 hz3 ho h2 hs hb1 hb3
    by_cases hv : v.size = 0
    · have HR : Hid (odOk (2, k, v) = keyOk k) := by show _ = _; unfold odOk; simp [hv]
      obtain rfl := size_empty hv
      clear hv
      generalize keyOk k = K at *
      cases K
      all_goals
        go_enter Try.func58, Try.ntmps58
        go_wp2_with fail
        refine HK.out.mono ?_
        rintro e w1 ⟨rfl, hb1⟩
        have hc := bcell hb1
        go_wp2_with fail
        go_ret
        exact ⟨ret_bool HR.out.symm, hba.trans (hb1.mono hba.size)⟩
    · have HR : Hid (odOk (2, k, v) = false) := by show _ = _; unfold odOk; simp [hv]
      obtain ⟨hq, hq2⟩ := not_empty hv
      clear hv
      generalize keyOk k = K at *
      cases K
      all_goals
        go_enter Try.func58, Try.ntmps58
        go_wp2_with fail
        refine HK.out.mono ?_
        rintro e w1 ⟨rfl, hb1⟩
        have hc := bcell hb1
        go_wp2_with fail
        go_ret
        exact ⟨ret_bool HR.out.symm, hba.trans (hb1.mono hba.size)⟩
  · have hb2 : (z == 2) = false := beq_eq_false_iff_ne.2 hz2
    have HR : Hid (odOk (z, k, v) = false) := by
      show _ = _
      unfold odOk
      rw [decide_eq_false (by simp only []; omega)]; rfl
    clear HP HK hz1 hz2 hz3 ho h2 hs
    go_enter Try.func58, Try.ntmps58
    go_wp2_with fail
    go_ret
    exact ⟨ret_bool HR.out.symm, hba⟩

set_option maxRecDepth 100000 in
set_option maxHeartbeats 2000000 in
theorem i_risesO (b off cap : Nat) (l : List Od) (w : World) (h : SlO w (some ⟨b, off, none⟩) l.length l) (hsz : l.length ≤ 1099511627776) :
    Calls Try.prog 59 #[.slice (some ⟨b, off, none⟩) l.length cap] w fun e w' => e = .returned (.bool (riseOB l)) ∧ Below w.heap.size w w' := by
  have hmt := i_methO
  generalize hR : riseOB l = R
  have HR := Hid.mk' hR
  clear hR
  go_enter Try.func59, Try.ntmps59
  go_wp2_with fail
  go_loopw [3] (fun i wr => ∃ j : Nat, 1 ≤ j ∧ j ≤ l.length + 1 ∧ i = .int .i64 (j : Int) ∧ riseOB (l.drop (j - 1)) = R ∧ Below w.heap.size w wr) (fun i _ => l.length + 1 - (intOf i).toNat)
  case atStart => exact ⟨1, Nat.le_refl _, by omega, rfl, HR.out, Below.refl _ _⟩
  case round =>
    obtain ⟨j, hj1, hj2, rfl, hr, hB⟩ := hrel
    by_cases hlt : j < l.length
    · have hS := h.below hB
      have hbl := hS.lt (by omega)
      have hst := riseOB_step l j hj1 hlt
      rw [hr] at hst
      obtain ⟨c1, c2, c5⟩ := hS.cells j hlt
      obtain ⟨c3, c4, c6⟩ := hS.cells (j - 1) (by omega)
      have hji : (j : Int) < (l.length : Int) := by omega
      obtain ⟨k, hk⟩ : ∃ k, j - 1 = k := ⟨_, rfl⟩
      have hkw : (j : Int) - 1 = (k : Int) := by omega
      have hki : (k : Int) < (l.length : Int) := by omega
      have hne : Op.bytesLess l[j - 1].2.1.toList l[j].2.1.toList = ltB l[j - 1].2.1 l[j].2.1 := rfl
      generalize l[j] = p at *
      generalize l[j - 1] = q at *
      rw [hk] at c3 c4 c6
      have o1 := last.On.cell c1 hbl
      have o2 := last.On.cell c2 hbl
      have o3 := last.On.cell c3 hbl
      have o4 := last.On.cell c4 hbl
      have o5 := last.On.cell c5 hbl
      have o6 := last.On.cell c6 hbl
      cases hL : ltB q.2.1 p.2.1
      all_goals
        rw [hL] at hst hne
        have HST := Hid.mk' hst
        clear hst hr hL hS hk
        go_wp2_with fail
        have hinh := last.On.inh wr.heap.size wr
        have hc1 : ∀ x : last.On wr.heap.size wr, Calls Try.prog 163 #[.agg #[.int .i64 p.1, .string p.2.1, .string p.2.2]] x.w fun e w' => e = .returned (.string p.2.1) ∧ ∃ y : last.On wr.heap.size wr, w' = y.w := fun x => last.Calls.on x (Nat.le_refl _) ((i_keyO p x.w).mono fun e w' ⟨he, hw⟩ => ⟨he, by rw [hw]; exact (Below.refl _ _).alloc (Nat.le_refl _) _⟩)
        have hc2 : ∀ x : last.On wr.heap.size wr, Calls Try.prog 163 #[.agg #[.int .i64 q.1, .string q.2.1, .string q.2.2]] x.w fun e w' => e = .returned (.string q.2.1) ∧ ∃ y : last.On wr.heap.size wr, w' = y.w := fun x => last.Calls.on x (Nat.le_refl _) ((i_keyO q x.w).mono fun e w' ⟨he, hw⟩ => ⟨he, by rw [hw]; exact (Below.refl _ _).alloc (Nat.le_refl _) _⟩)
        refine last.wp_region_on wr.heap.size (by kernel_rfl) (by kernel_rfl) ?_
        repeat (go_big_quiet_step ((go_at_call 163; first | exact hc1 _ | exact hc2 _)))
        refine wpQuiet_nil ?_
        intro w5 hw5
        obtain ⟨x5, hw5⟩ := hw5
        subst hw5
        have hB5 : Below w.heap.size w x5.w := hB.trans (x5.2.mono hB.size)
        go_wp2_with fail
      · go_ret
        exact ⟨ret_bool (by rw [HST.out]; rfl), hB5⟩
      · go_roundw
        case rel => exact ⟨j + 1, by omega, by omega, by go_num, by rw [HST.out]; simp, hB5⟩
        case measure => simp [intOf]; omega
    · have HF : Hid (R = true) := by show _ = _; rw [← hr]; exact riseOB_end l j (by omega)
      clear hr
      go_wp2_with fail
      go_ret
      exact ⟨ret_bool (by rw [HF.out]), hB⟩

set_option maxRecDepth 100000 in
set_option maxHeartbeats 2000000 in
theorem impl_opsOk (b off len cap : Nat) (l : List Od) (w : World) (h : SlO w (some ⟨b, off, none⟩) len l) (hks : ∀ p ∈ l, p.2.1.size ≤ 1099511627776) :
    Calls Try.prog 29 #[.slice (some ⟨b, off, none⟩) len cap] w fun e w' => e = .returned (.bool (opsOk l)) ∧ Below w.heap.size w w' := by
  have hl := h.1
  have hm := h.2.1
  have hsm := h.2.2.1
  subst hl
  unfold maxLen at hm
  by_cases h1 : l.length < 1
  · go_enter Try.func29, Try.ntmps29
    go_wp2_with fail
    go_ret
    exact ⟨ret_bool (by unfold opsOk; rw [decide_eq_false (by omega : ¬ (1 ≤ l.length ∧ l.length ≤ 8))]; simp), Below.refl _ _⟩
  by_cases h8 : 8 < l.length
  · go_enter Try.func29, Try.ntmps29
    go_wp2_with fail
    go_ret
    exact ⟨ret_bool (by unfold opsOk; rw [decide_eq_false (by omega : ¬ (1 ≤ l.length ∧ l.length ≤ 8))]; simp), Below.refl _ _⟩
  · have HP : Hid (opsOk l = (l.all odOk && riseOB l)) := by show _ = _; unfold opsOk; rw [opsFrom_split, decide_eq_true (by omega : 1 ≤ l.length ∧ l.length ≤ 8)]; simp
    generalize hA : l.all odOk = A
    have HA := Hid.mk' hA
    clear hA
    go_enter Try.func29, Try.ntmps29
    go_wp2_with fail
    go_loopw [15] (fun i wr => ∃ k : Nat, k ≤ l.length ∧ i = .int .i64 (k : Int) ∧ (l.drop k).all odOk = A ∧ Below w.heap.size w wr) (fun i _ => l.length - (intOf i).toNat)
    case atStart => exact ⟨0, Nat.zero_le _, rfl, HA.out, Below.refl _ _⟩
    case round =>
      obtain ⟨k, hk, rfl, hr, hB⟩ := hrel
      by_cases hlt : k < l.length
      · obtain ⟨c1, c2, c3⟩ := (h.below hB).cells k hlt
        have hpk := hsm _ (List.getElem_mem hlt)
        have hks' := hks _ (List.getElem_mem hlt)
        have hki : (k : Int) < (l.length : Int) := by omega
        have hst := all_dropO l k hlt
        rw [hr] at hst
        have hcall := fun wx => i_opOk l[k] wx hpk hks'
        have hBA : Below w.heap.size w (wr.alloc (.cells #[.int .i64 l[k].1, .string l[k].2.1, .string l[k].2.2] 111)) := hB.alloc hB.size _
        generalize l[k] = p at *
        cases hP : odOk p
        all_goals
          rw [hP] at hst hcall
          have HST := Hid.mk' hst
          have HC := Hid.mk' hcall
          clear hst hr hcall hP
          go_wp2_with fail
          refine (HC.out _).mono ?_
          rintro e w3 ⟨rfl, hb3⟩
          have hB3 : Below w.heap.size w w3 := hBA.trans (hb3.mono hBA.size)
          clear hb3 hBA hB c1 c2 c3
          go_wp2_with fail
        · go_ret
          exact ⟨ret_bool (by rw [HP.out, HA.out, HST.out]; rfl), hB3⟩
        · go_roundw
          case rel => exact ⟨k + 1, by omega, by go_num, by rw [HST.out]; simp, hB3⟩
          case measure => simp [intOf]; omega
      · have HF : Hid (A = true) := by show _ = _; rw [← hr, List.drop_eq_nil_of_le (by omega)]; rfl
        have HI := Hid.mk' (i_risesO b off cap l wr (h.below hB) (by omega))
        clear hr
        go_wp2_with fail
        refine HI.out.mono ?_
        rintro e w3 ⟨rfl, hb3⟩
        have hB3 : Below w.heap.size w w3 := hB.trans (hb3.mono hB.size)
        clear hb3
        go_wp2_with fail
        go_ret
        exact ⟨ret_bool (by rw [HP.out, HA.out, HF.out]; simp), hB3⟩

end Go.Proofs.Yteniflajiklffaa.ords

namespace Go.Proofs.Yteniflajiklffaa.pairs
open Go Go.RowKit Go.Proofs.Yteniflajiklffaa.base
set_option linter.unusedVariables false
set_option linter.unusedSimpArgs false

end Go.Proofs.Yteniflajiklffaa.pairs

namespace Go.Proofs.Yteniflajiklffaa.pairs
open Go Go.RowKit Go.Proofs.Yteniflajiklffaa.base
set_option linter.unusedVariables false
set_option linter.unusedSimpArgs false

end Go.Proofs.Yteniflajiklffaa.pairs

namespace Go.Proofs.Yteniflajiklffaa.pairs
open Go Go.RowKit Go.Proofs.Yteniflajiklffaa.base
set_option linter.unusedVariables false
set_option linter.unusedSimpArgs false

end Go.Proofs.Yteniflajiklffaa.pairs

namespace Go.Proofs.Yteniflajiklffaa.pairs
open Go Go.RowKit Go.Proofs.Yteniflajiklffaa.base
open Go.Maps (Keyed)
open Go.WideMaps (keyOf_string_mk)
set_option linter.unusedVariables false
set_option linter.unusedSimpArgs false

/-! ### how often a key is there -/
def cnt (s : ByteArray) (l : List Pr) : Nat := (l.filter fun p => decide (p.1 = s)).length
end Go.Proofs.Yteniflajiklffaa.pairs

namespace Go.Proofs.Yteniflajiklffaa.ords
open Go Go.RowKit Go.Proofs.Yteniflajiklffaa.base Go.Proofs.Yteniflajiklffaa.pairs
set_option linter.unusedVariables false
set_option linter.unusedSimpArgs false

set_option maxHeartbeats 400000 in
theorem impl_shardOf (key : ByteArray) (n : Int) (w : World) (hs : key.size ≤ 1099511627776) (hn : (Lit.int .i64 n).wf = true) :
    Calls Try.prog 68 #[.string key, .int .i64 n] w fun e w' => e = .returned (.int .i64 (shardOf key n)) ∧ Below w.heap.size w w' := by
  have hH := hashOf_lt key.data.toList
  have HC := Hid.mk' (hash.impl_hash key w (by unfold maxLen; omega))
  unfold shardOf
  generalize hashOf key.data.toList = H at *
  by_cases h1 : n < 1
  · rw [if_pos h1]
    go_enter Try.func68, Try.ntmps68
    go_wp2_with fail
    go_ret
    exact ⟨rfl, Below.refl _ _⟩
  · rw [if_neg h1]
    have h2 : Int.tmod (H : Int) n = (H : Int) % n := Int.tmod_eq_emod_of_nonneg (by omega)
    have h3 : 0 ≤ (H : Int) % n := Int.emod_nonneg _ (by omega)
    have h4 : (H : Int) % n ≤ 4294967296 := by
      have h5 := Int.emod_add_ediv_mul (H : Int) n
      have h6 : 0 ≤ (H : Int) / n * n := Int.mul_nonneg (Int.ediv_nonneg (by omega) (by omega)) (by omega)
      omega
    generalize (H : Int) % n = R at *
    go_enter Try.func68, Try.ntmps68
    go_wp2_with fail
    refine HC.out.mono ?_
    rintro e w1 ⟨rfl, hb1⟩
    go_wp2_with fail
    go_ret
    exact ⟨rfl, hb1⟩

end Go.Proofs.Yteniflajiklffaa.ords

namespace Go.Proofs.Yteniflajiklffaa.ords
open Go Go.RowKit Go.Proofs.Yteniflajiklffaa.base Go.Proofs.Yteniflajiklffaa.pairs
open Go.ChangeMaps Go.MapKept
open Go.WideElems (Fit rd rg pl rd_val rd_key rg_of)
open Go.Maps (Keyed)
open Go.Maps (keyOf_int_mk)
set_option linter.unusedVariables false
set_option linter.unusedSimpArgs false

theorem intLaw : Keyed Try.prog 3 := Maps.int_keyed Try.underlying3
def noR : Value → Option (DataW Unit × List MemPlace) := fun _ => some (.nil, [])
def KeysD (es : Array MapEntry) (D : DataW Unit) : Prop := D = .map ((es.toList.map (rg Try.prog 3 noR)).foldr DataW.insert [])
def upd (f : Int → List Od) (s : Int) (l : List Od) (t : Int) : List Od := if t = s then l else f t
theorem upd_same (f : Int → List Od) (s : Int) (l : List Od) : upd f s l s = l := if_pos rfl
theorem upd_other {f : Int → List Od} {s t : Int} {l : List Od} (h : t ≠ s) : upd f s l t = f t := if_neg h
def Groups (w : World) (B base n : Nat) (f : Int → List Od) : Prop :=
  ∃ es clock, w.heap[B]? = some (.map es clock) ∧ Fit Try.prog 3 noR es clock ∧ es.size ≤ n ∧ B < base ∧
    (∀ x ∈ es.toList, ∃ (s : Int) (g m cp : Nat), x.key = .int .i64 s ∧ x.val = .slice (some ⟨g, 0, none⟩) m cp ∧ f s ≠ [] ∧ OwnO w base g m cp (f s)) ∧
    (∀ D, KeysD es D → ∀ s, (Lit.int .i64 s).wf = true → (Maps.has D (.int .i64 s) = true ↔ f s ≠ [])) ∧
    ∀ x ∈ es.toList, ∀ y ∈ es.toList, x.key ≠ y.key → x.val.ownBlock ≠ y.val.ownBlock
section
variable {w w' : World} {B base n : Nat} {f : Int → List Od} {row : Option Nat}
theorem groups_made (w : World) : Groups (w.alloc (.map #[] 0)) w.heap.size (w.heap.size + 1) 0 (fun _ => []) :=
  ⟨#[], 0, (MapKept.heap_alloc w _).1, ⟨by simp, stamped_empty 0, by simp⟩, Nat.le_refl _, Nat.lt_succ_self _, by simp, fun D hD s _ => by unfold KeysD at hD; subst hD; simp [Maps.has], by simp⟩
theorem Groups.lt (h : Groups w B base n f) : B < w.heap.size := by
  obtain ⟨es, clock, hb, _⟩ := h
  exact (Array.getElem?_eq_some_iff.1 hb).1
theorem Groups.size (h : Groups w B base n f) : B < base := by
  obtain ⟨es, clock, hb, _, _, h1, _⟩ := h
  exact h1
theorem Groups.grown (h : Groups w B base n f) (hg : w.grownBy w' row) (hB : some B ≠ row) (hr : ∀ j, row = some j → j < base) : Groups w' B base n f := by
  have hlt := h.lt
  obtain ⟨es, clock, hb, F, hs, hbb, hel, hhas, hap⟩ := h
  refine ⟨es, clock, (hg.block B hlt hB).trans hb, F, hs, hbb, fun x hx => ?_, hhas, hap⟩
  obtain ⟨s, g, m, cp, h1, h2, h3, h4⟩ := hel x hx
  exact ⟨s, g, m, cp, h1, h2, h3, h4.grown hg (fun e => by have := hr g e.symm; have := h4.lt; omega)⟩
theorem Groups.below (h : Groups w B base n f) (hb : Below w.heap.size w w') : Groups w' B base n f :=
  h.grown (row := none) ⟨hb.os, hb.tape, hb.output, hb.size, fun k hk _ => hb.block k hk⟩ (by simp) (fun j e => by cases e)
theorem Groups.owns (h : Groups w B base n f) : ∃ D, w.ownsMap Try.prog 3 noR B n D ∧ Maps.IsMap D ∧ ∀ s, (Lit.int .i64 s).wf = true → (Maps.has D (.int .i64 s) = true ↔ f s ≠ []) := by
  obtain ⟨es, clock, hb, F, hs, hbb, hel, hhas, hap⟩ := h
  exact ⟨_, ⟨es, clock, hb, F, hs, rfl⟩, ⟨_, rfl⟩, hhas _ rfl⟩

def Back (w : World) (B base n : Nat) (f : Int → List Od) (s : Int) (v : Value) : Prop :=
  ∀ (w1 : World) (g m cp : Nat) (l' : List Od), w.grownBy w1 v.ownBlock → OwnO w1 base g m cp l' → l' ≠ [] → (some g = v.ownBlock ∨ w.heap.size ≤ g) →
    ∃ w2, (Instr.mapUpdate 73 (.map (some B)) (.int .i64 s) (.slice (some ⟨g, 0, none⟩) m cp)).run Try.prog w1 = .ok () w2 ∧
      Groups w2 B base (n + 1) (upd f s l') ∧ w1.grownBy w2 (some B)

theorem groups_back {es : Array MapEntry} {clock : Nat} {s : Int} {v : Value} (hsw : (Lit.int .i64 s).wf = true) (hb : w.heap[B]? = some (.map es clock)) (F : Fit Try.prog 3 noR es clock) (hs : es.size ≤ n) (hn : n < maxLen) (hbb : B < base)
    (hel : ∀ x ∈ es.toList, ∃ (s : Int) (g m cp : Nat), x.key = .int .i64 s ∧ x.val = .slice (some ⟨g, 0, none⟩) m cp ∧ f s ≠ [] ∧ OwnO w base g m cp (f s))
    (hhas : ∀ D, KeysD es D → ∀ s, (Lit.int .i64 s).wf = true → (Maps.has D (.int .i64 s) = true ↔ f s ≠ []))
    (hap : ∀ x ∈ es.toList, ∀ y ∈ es.toList, x.key ≠ y.key → x.val.ownBlock ≠ y.val.ownBlock)
    (hv : ∀ x ∈ es.toList, x.key ≠ .int .i64 s → x.val.ownBlock ≠ v.ownBlock) (hvb : v.ownBlock ≠ some B) : Back w B base n f s v := by
  intro w1 g m cp l' hg hO' hne' hloc
  have hblt : B < w.heap.size := (Array.getElem?_eq_some_iff.1 hb).1
  have hb1 : w1.heap[B]? = some (.map es clock) := (hg.block B hblt (fun e1 => hvb e1.symm)).trans hb
  have hkey := keyOf_int_mk (P := Try.prog) Try.underlying3 hsw
  obtain ⟨es', clock', hrun, F', hput, _, _, hwho⟩ := Maps.fit_store (R := noR) (R' := noR) (val := .slice (some ⟨g, 0, none⟩) m cp) intLaw Try.underlying73 hb1 F (Nat.lt_of_le_of_lt hs hn) (fun x hx _ z hz => hz) hkey (yv := (.nil, [])) rfl
  have hg2 : w1.grownBy (setBlock w1 B (.map es' clock')) (some B) := ⟨rfl, rfl, rfl, by simp [setBlock], fun i _ hi => heap_setBlock_other hb1 _ (fun e1 => hi (by rw [e1]))⟩
  obtain ⟨D0, hD0⟩ : ∃ D, KeysD es D := ⟨_, rfl⟩
  have hD : ∀ D', KeysD es' D' → D' = D0.put (.int .i64 s) .nil := by intro D' h'; unfold KeysD at h' hD0; rw [h', hD0, DataW.put_eq, hput]
  have hD1 : Maps.IsMap D0 := ⟨_, hD0⟩
  have hgb := hO'.lt
  refine ⟨_, hrun, ⟨es', clock', heap_setBlock_same hb1 _, F', ?_, hbb, ?_, ?_, ?_⟩, hg2⟩
  · have e1 : es'.size = ((es'.toList.map (rg Try.prog 3 noR)).foldr DataW.insert []).length := by rw [length_sorted]; simp
    rw [e1, hput]
    unfold Go.ChangeMaps.putKey
    rw [length_insert]
    have e2 := List.length_filter_le (notKey (.int .i64 s)) ((es.toList.map (rg Try.prog 3 noR)).foldr DataW.insert [])
    rw [length_sorted] at e2
    simp at e2
    omega
  · intro x hx
    rcases hwho x hx with ⟨hx0, hxk⟩ | ⟨hxk, hxv⟩
    · obtain ⟨t, gx, mx, cx, h1, h2, h3, h4⟩ := hel x hx0
      have hts : t ≠ s := fun e => hxk (by rw [h1, e])
      have hgx : some gx ≠ v.ownBlock := fun e => hv x hx0 hxk (by rw [h2]; exact e)
      have := h4.lt
      exact ⟨t, gx, mx, cx, h1, h2, by rw [upd_other hts]; exact h3, by rw [upd_other hts]; exact (h4.grown hg hgx).grown hg2 (fun e => by cases e; omega)⟩
    · exact ⟨s, g, m, cp, hxk, hxv, by rw [upd_same]; exact hne', by rw [upd_same]; exact hO'.grown hg2 (fun e => by cases e; omega)⟩
  · intro D' h' t ht
    rw [hD D' h']
    by_cases e : t = s
    · subst e
      rw [Maps.has_put_same hD1 (by trivial)]
      rw [upd_same]; simpa using hne'
    · rw [Maps.has_put_other (fun e1 => e (by cases e1; rfl)), hhas D0 hD0 t ht, upd_other e]
  · have old_new : ∀ x ∈ es.toList, x.key ≠ .int .i64 s → x.val.ownBlock ≠ some g := by
      intro x hx hxk e1
      rcases hloc with h1 | h1
      · exact hv x hx hxk (by rw [e1, h1])
      · obtain ⟨t, gx, mx, cx, _, h2, _, h4⟩ := hel x hx
        have := h4.lt
        rw [h2] at e1
        simp [Value.ownBlock] at e1
        omega
    intro x hx y hy hne
    rcases hwho x hx with ⟨hx0, hxk⟩ | ⟨hxk, hxv⟩ <;> rcases hwho y hy with ⟨hy0, hyk⟩ | ⟨hyk, hyv⟩
    · exact hap x hx0 y hy0 hne
    · rw [hyv]; exact old_new x hx0 hxk
    · rw [hxv]; exact fun e => old_new y hy0 hyk e.symm
    · exact absurd (hxk.trans hyk.symm) hne

theorem Groups.look (h : Groups w B base n f) {s : Int} (hsw : (Lit.int .i64 s).wf = true) (hn : n < maxLen) :
    ∃ v, (Instr.lookup 73 (.map (some B)) (.int .i64 s) false).run Try.prog w = .ok v w ∧ w.ownsRow base 111 3 v (f s).length (ordVals (f s)) ∧ (∀ p ∈ f s, smallO p) ∧ Back w B base n f s v := by
  obtain ⟨es, clock, hb, F, hs, hbb, hel, hhas, hap⟩ := h
  have hkey := keyOf_int_mk (P := Try.prog) Try.underlying3 hsw
  rcases Maps.fit_look (R := noR) false intLaw Try.underlying73 (z := .slice none 0 0) (by kernel_rfl) hb F hkey with ⟨hrun, hno, hat⟩ | ⟨e0, y, hm0, h3, hrun, hR, hat, _⟩
  · have hf : f s = [] := by
      have := Maps.has_false_of_atKey hat
      have h1 := hhas _ rfl s hsw
      cases hfs : f s with
      | nil => rfl
      | cons a l =>
        have h2 := h1.2 (by rw [hfs]; simp)
        rw [this] at h2; cases h2
    refine ⟨.slice none 0 0, by simpa using hrun, by rw [hf]; exact World.ownsRow_nil _ _ _ _, by rw [hf]; exact fun p hp => absurd hp List.not_mem_nil, groups_back hsw hb F hs hn hbb hel hhas hap (fun x hx _ => ?_) (by simp [Value.ownBlock])⟩
    obtain ⟨t, g, m, cp, _, h2, _, _⟩ := hel x hx
    rw [h2]; simp [Value.ownBlock]
  · obtain ⟨t, g, m, cp, h1, h2, h4, h5⟩ := hel e0 hm0
    obtain rfl : t = s := by rw [h3] at h1; cases h1; rfl
    have hlt := h5.lt
    refine ⟨e0.val, by simpa using hrun, by rw [h2, h5.1]; exact h5.2.2, h5.2.1, groups_back hsw hb F hs hn hbb hel hhas hap (fun x hx hne => hap x hx e0 hm0 (by rw [h3]; exact hne)) ?_⟩
    rw [h2]; simp [Value.ownBlock]; omega
end

theorem wpList_look_groups (w : World) {ops : Array Oper} {rest : List Oper} {o : Oper} {a : Act} {Q : Exit → Act → World → Prop}
    (hg : o.guard = none) (m x : Operand) (hop : o.op = Op.lookup 73 m x false) {B base n : Nat} {f : Int → List Od} {s : Int}
    (hm : a.eval m = .map (some B)) (hx : a.eval x = .int .i64 s) (h : Groups w B base n f) (hsw : (Lit.int .i64 s).wf = true) (hn : n < maxLen)
    (hK : ∀ v, w.ownsRow base 111 3 v (f s).length (ordVals (f s)) → (∀ p ∈ f s, smallO p) → Back w B base n f s v → wpList Try.prog ops Q rest (a.put o.dst v) w) :
    wpList Try.prog ops Q (o :: rest) a w := by
  refine wpList_plain hg fun K' hK' => ?_
  obtain ⟨v, hrun, h1, h2, h3⟩ := h.look hsw hn
  unfold Oper.wp
  simp [execOp, hop, hm, hx, hrun, Result.andThen]
  exact hK' _ _ (hK v h1 h2 h3)
theorem wpList_store_back (w : World) {ops : Array Oper} {rest : List Oper} {o : Oper} {a : Act} {Q : Exit → Act → World → Prop}
    (hg : o.guard = none) (m x y : Operand) (hop : o.op = Op.mapUpdate 73 m x y) {w0 : World} {B base n g k cp : Nat} {f : Int → List Od} {s : Int} {v : Value} {l' : List Od}
    (hback : Back w0 B base n f s v) (hm : a.eval m = .map (some B)) (hx : a.eval x = .int .i64 s) (hy : a.eval y = .slice (some ⟨g, 0, none⟩) k cp)
    (hgr : w0.grownBy w v.ownBlock) (hO : OwnO w base g k cp l') (hne : l' ≠ []) (hloc : some g = v.ownBlock ∨ w0.heap.size ≤ g)
    (hK : ∀ w2, Groups w2 B base (n + 1) (upd f s l') → w.grownBy w2 (some B) → wpList Try.prog ops Q rest (a.put o.dst undef) w2) :
    wpList Try.prog ops Q (o :: rest) a w := by
  refine wpList_plain hg fun K' hK' => ?_
  obtain ⟨w2, hrun, r1, r2⟩ := hback w g k cp l' hgr hO hne hloc
  unfold Oper.wp
  simp [execOp, hop, hm, hx, hy, hrun, Result.andThen]
  exact hK' _ _ (hK w2 r1 r2)
end Go.Proofs.Yteniflajiklffaa.ords

namespace Go.Proofs.Yteniflajiklffaa.sorts
open Go Go.Proofs Go.Shelf
def ren189 : Go.Shelf.Ren := ⟨fun | 189 => 37 | 125 => 70 | 257 => 69 | 128 => 115 | 129 => 116 | 294 => 106 | 295 => 107 | 296 => 108 | 297 => 109 | 298 => 110 | 299 => 111 | 216 => 112 | 300 => 113 | 301 => 114 | 328 => 134 | 329 => 135 | 330 => 136 | 331 => 137 | 332 => 138 | 215 => 139 | 343 => 144 | n => n, fun | 28 => 34 | 3 => 3 | 46 => 126 | 0 => 0 | 51 => 160 | 53 => 162 | 4 => 4 | 183 => 152 | 182 => 151 | 131 => 157 | 5 => 5 | 9 => 9 | 218 => 176 | 222 => 180 | 228 => 185 | 229 => 186 | n => n, fun | n => n⟩
theorem lays189 : Go.Proofs.Lays.n189 Try.prog ren189 := {
  mixed := by kernel_rfl
  f125 := Try.func70.trans (congrArg some (by kernel_rfl))
  f128 := Try.func115.trans (congrArg some (by kernel_rfl))
  f129 := Try.func116.trans (congrArg some (by kernel_rfl))
  f189 := Try.func37.trans (congrArg some (by kernel_rfl))
  f215 := Try.func139.trans (congrArg some (by kernel_rfl))
  f216 := Try.func112.trans (congrArg some (by kernel_rfl))
  f257 := Try.func69.trans (congrArg some (by kernel_rfl))
  f294 := Try.func106.trans (congrArg some (by kernel_rfl))
  f295 := Try.func107.trans (congrArg some (by kernel_rfl))
  f296 := Try.func108.trans (congrArg some (by kernel_rfl))
  f297 := Try.func109.trans (congrArg some (by kernel_rfl))
  f298 := Try.func110.trans (congrArg some (by kernel_rfl))
  f299 := Try.func111.trans (congrArg some (by kernel_rfl))
  f300 := Try.func113.trans (congrArg some (by kernel_rfl))
  f301 := Try.func114.trans (congrArg some (by kernel_rfl))
  f328 := Try.func134.trans (congrArg some (by kernel_rfl))
  f329 := Try.func135.trans (congrArg some (by kernel_rfl))
  f330 := Try.func136.trans (congrArg some (by kernel_rfl))
  f331 := Try.func137.trans (congrArg some (by kernel_rfl))
  f332 := Try.func138.trans (congrArg some (by kernel_rfl))
  f343 := Try.func144.trans (congrArg some (by kernel_rfl))
  t0 := Try.underlying0
  a0 := Try.isAgg0
  z0 := Try.sizeOf0
  v0 := Try.zeroValue0
  t3 := Try.underlying3
  a3 := Try.isAgg3
  z3 := Try.sizeOf3
  v3 := Try.zeroValue3
  t4 := Try.underlying4
  a4 := Try.isAgg4
  z4 := Try.sizeOf4
  v4 := Try.zeroValue4
  t5 := Try.underlying5
  a5 := Try.isAgg5
  z5 := Try.sizeOf5
  v5 := Try.zeroValue5
  t9 := Try.underlying9
  a9 := Try.isAgg9
  z9 := Try.sizeOf9
  v9 := Try.zeroValue9
  t28 := Try.underlying34
  a28 := Try.isAgg34
  z28 := Try.sizeOf34
  v28 := Try.zeroValue34
  t46 := Try.underlying126
  a46 := Try.isAgg126
  z46 := Try.sizeOf126
  v46 := Try.zeroValue126
  t51 := Try.underlying160
  a51 := Try.isAgg160
  z51 := Try.sizeOf160
  v51 := Try.zeroValue160
  t53 := Try.underlying162
  a53 := Try.isAgg162
  z53 := Try.sizeOf162
  v53 := Try.zeroValue162
  t131 := Try.underlying157
  a131 := Try.isAgg157
  z131 := Try.sizeOf157
  v131 := Try.zeroValue157
  t182 := Try.underlying151
  a182 := Try.isAgg151
  z182 := Try.sizeOf151
  v182 := Try.zeroValue151
  t183 := Try.underlying152
  a183 := Try.isAgg152
  z183 := Try.sizeOf152
  v183 := Try.zeroValue152
  t218 := Try.underlying176
  a218 := Try.isAgg176
  z218 := Try.sizeOf176
  v218 := Try.zeroValue176
  t222 := Try.underlying180
  a222 := Try.isAgg180
  z222 := Try.sizeOf180
  v222 := Try.zeroValue180
  t228 := Try.underlying185
  a228 := Try.isAgg185
  z228 := Try.sizeOf185
  v228 := Try.zeroValue185
  t229 := Try.underlying186
  a229 := Try.isAgg186
  z229 := Try.sizeOf186
  v229 := Try.zeroValue186 }
open Go.Sort Go.RowKit in
theorem sort_int (blk off cap : Nat) (zs : List Int) (w : World) (hH : Holds (Value.int .i64) w blk off zs.toArray) (hblk : blk < w.heap.size) (hsz : zs.length < 4611686018427387904) :
    Calls Try.prog 37 #[.slice (some ⟨blk, off, none⟩) zs.length cap] w fun e w' =>
      e = .returned (.tuple #[]) ∧ ∃ n os, w' = grow (putRow (Value.int .i64) (Sort.ahead w n) blk off (zs.mergeSort fun x y => decide (x ≤ y)).toArray) os := Any.slices_Sort_int lays189 blk off cap zs w hH hblk hsz
end Go.Proofs.Yteniflajiklffaa.sorts
