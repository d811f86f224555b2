/- The program's orders: what is right. The program's records: what is right. hash walks The specification's orders: what is met, what is done, at which shard. The specification's orders: what is done, and those of a shard. The program's pairs between two ends. The program's orders: what is met, at which shard, what is done. -/
import Derived.Test.YteniflajiklffaaShac
import Derived.Test.YteniflajiklffaaShae
import Derived.Test.YteniflajiklffaaRows
import Derived.Test.YteniflajiklffaaShaa
import Derived.Test.YteniflajiklffaaShaf
namespace Go.Proofs.Yteniflajiklffaa.ords
open Go Go.RowKit Go.Proofs.Yteniflajiklffaa.base Go.Proofs.Yteniflajiklffaa.pairs
set_option linter.unusedVariables false
set_option linter.unusedSimpArgs false

/-! ### orders that rise -/
def riseOB : List Od → Bool
  | [] => true
  | p :: l => (match l.head? with | none => true | some q => ltB p.2.1 q.2.1) && riseOB l
theorem opsFrom_some (k : ByteArray) (l : List Od) : opsFrom (some k) l = ((match l.head? with | none => true | some q => ltB k q.2.1) && l.all odOk && riseOB l) := by
  induction l generalizing k with
  | nil => rfl
  | cons p l ih =>
    simp only [opsFrom, ih, List.head?_cons, List.all_cons, riseOB]
    cases odOk p <;> cases ltB k p.2.1 <;> cases l.all odOk <;> cases riseOB l <;> simp
theorem opsFrom_split (l : List Od) : opsFrom none l = (l.all odOk && riseOB l) := by
  cases l with
  | nil => rfl
  | cons p l =>
    simp only [opsFrom, opsFrom_some, List.all_cons, riseOB]
    cases odOk p <;> cases l.all odOk <;> cases riseOB l <;> simp
theorem riseOB_step (l : List Od) (j : Nat) (h1 : 1 ≤ j) (h : j < l.length) : riseOB (l.drop (j - 1)) = (ltB l[j - 1].2.1 l[j].2.1 && riseOB (l.drop j)) := by
  rw [List.drop_eq_getElem_cons (by omega : j - 1 < l.length), riseOB, show j - 1 + 1 = j by omega, List.head?_drop, List.getElem?_eq_getElem h]
theorem riseOB_end (l : List Od) (j : Nat) (h : l.length ≤ j) : riseOB (l.drop (j - 1)) = true := by
  by_cases h2 : j - 1 < l.length
  · rw [List.drop_eq_getElem_cons h2, riseOB, List.drop_eq_nil_of_le (by omega)]; rfl
  · rw [List.drop_eq_nil_of_le (by omega)]; rfl
theorem all_dropO (l : List Od) (k : Nat) (h : k < l.length) : (l.drop k).all odOk = (odOk l[k] && (l.drop (k + 1)).all odOk) := by
  rw [List.drop_eq_getElem_cons h, List.all_cons]

set_option maxHeartbeats 400000 in
theorem i_keyO (p : Od) (w : World) :
    Calls Try.prog 163 #[.agg #[.int .i64 p.1, .string p.2.1, .string p.2.2]] w fun e w' => e = .returned (.string p.2.1) ∧ w' = w.alloc (.cells #[.int .i64 p.1, .string p.2.1, .string p.2.2] 111) := by
  go_enter Try.func163, Try.ntmps163
  go_wp2
  go_ret
  exact ⟨rfl, rfl⟩
theorem i_methO (z : Int) (x y : ByteArray) (w : World) : (method 306 111 (.agg #[.int .i64 z, .string x, .string y]) "loop.example/g00244/impl.key").run Try.prog w = .ok (163, .agg #[.int .i64 z, .string x, .string y]) w := by kernel_rfl

set_option maxRecDepth 100000 in
set_option maxHeartbeats 1000000 in
theorem i_opOk (o : Od) (w : World) (ho : smallO o) (hs : o.2.1.size ≤ 1099511627776) :
    Calls Try.prog 58 #[.agg #[.int .i64 o.1, .string o.2.1, .string o.2.2]] w fun e w' => e = .returned (.bool (odOk o)) ∧ Below w.heap.size w w' := by
  obtain ⟨z, k, v⟩ := o
  have h2 := ho.2
  simp only [] at h2 hs ⊢
  have hba : Below w.heap.size w (w.alloc (.cells #[.int .i64 z, .string k, .string v] 111)) := (Below.refl _ _).alloc (Nat.le_refl _) _
  have HK := Hid.mk' (impl_keyOk k (w.alloc (.cells #[.int .i64 z, .string k, .string v] 111)) hs)
  have HP := Hid.mk' (impl_pairOk (k, v) (w.alloc (.cells #[.int .i64 z, .string k, .string v] 111)) h2 hs)
  by_cases hz1 : z = 1
  · subst hz1
    have HR : Hid (odOk (1, k, v) = pairOk (k, v)) := by show _ = _; unfold odOk pairOk; simp
    generalize pairOk (k, v) = K at *
    clear HK ho h2 hs
    go_enter Try.func58, Try.ntmps58
    go_wp2_with fail
    refine HP.out.mono ?_
    rintro e w1 ⟨rfl, hb1⟩
    go_wp2_with fail
    go_ret
    exact ⟨ret_bool HR.out.symm, hba.trans (hb1.mono hba.size)⟩
  by_cases hz3 : z = 3
  · subst hz3
    have HR : Hid (odOk (3, k, v) = pairOk (k, v)) := by show _ = _; unfold odOk pairOk; simp
    generalize pairOk (k, v) = K at *
    clear HK ho h2 hs
    go_enter Try.func58, Try.ntmps58
    go_wp2_with fail
    refine HP.out.mono ?_
    rintro e w1 ⟨rfl, hb1⟩
    go_wp2_with fail
    go_ret
    exact ⟨ret_bool HR.out.symm, hba.trans (hb1.mono hba.size)⟩
  have hb1 : (z == 1) = false := beq_eq_false_iff_ne.2 hz1
  have hb3 : (z == 3) = false := beq_eq_false_iff_ne.2 hz3
  by_cases hz2 : z = 2
  · subst hz2
    clear HP hz1 hz3 ho h2 hs hb1 hb3
    by_cases hv : v.size = 0
    · have HR : Hid (odOk (2, k, v) = keyOk k) := by show _ = _; unfold odOk; simp [hv]
      obtain rfl := size_empty hv
      clear hv
      generalize keyOk k = K at *
      cases K
      all_goals
        go_enter Try.func58, Try.ntmps58
        go_wp2_with fail
        refine HK.out.mono ?_
        rintro e w1 ⟨rfl, hb1⟩
        have hc := bcell hb1
        go_wp2_with fail
        go_ret
        exact ⟨ret_bool HR.out.symm, hba.trans (hb1.mono hba.size)⟩
    · have HR : Hid (odOk (2, k, v) = false) := by show _ = _; unfold odOk; simp [hv]
      obtain ⟨hq, hq2⟩ := not_empty hv
      clear hv
      generalize keyOk k = K at *
      cases K
      all_goals
        go_enter Try.func58, Try.ntmps58
        go_wp2_with fail
        refine HK.out.mono ?_
        rintro e w1 ⟨rfl, hb1⟩
        have hc := bcell hb1
        go_wp2_with fail
        go_ret
        exact ⟨ret_bool HR.out.symm, hba.trans (hb1.mono hba.size)⟩
  · have hb2 : (z == 2) = false := beq_eq_false_iff_ne.2 hz2
    have HR : Hid (odOk (z, k, v) = false) := by
      show _ = _
      unfold odOk
      rw [decide_eq_false (by simp only []; omega)]; rfl
    clear HP HK hz1 hz2 hz3 ho h2 hs
    go_enter Try.func58, Try.ntmps58
    go_wp2_with fail
    go_ret
    exact ⟨ret_bool HR.out.symm, hba⟩

set_option maxRecDepth 100000 in
set_option maxHeartbeats 2000000 in
theorem i_risesO (b off cap : Nat) (l : List Od) (w : World) (h : SlO w (some ⟨b, off, none⟩) l.length l) (hsz : l.length ≤ 1099511627776) :
    Calls Try.prog 59 #[.slice (some ⟨b, off, none⟩) l.length cap] w fun e w' => e = .returned (.bool (riseOB l)) ∧ Below w.heap.size w w' := by
  have hmt := i_methO
  generalize hR : riseOB l = R
  have HR := Hid.mk' hR
  clear hR
  go_enter Try.func59, Try.ntmps59
  go_wp2_with fail
  go_loopw [3] (fun i wr => ∃ j : Nat, 1 ≤ j ∧ j ≤ l.length + 1 ∧ i = .int .i64 (j : Int) ∧ riseOB (l.drop (j - 1)) = R ∧ Below w.heap.size w wr) (fun i _ => l.length + 1 - (intOf i).toNat)
  case atStart => exact ⟨1, Nat.le_refl _, by omega, rfl, HR.out, Below.refl _ _⟩
  case round =>
    obtain ⟨j, hj1, hj2, rfl, hr, hB⟩ := hrel
    by_cases hlt : j < l.length
    · have hS := h.below hB
      have hbl := hS.lt (by omega)
      have hst := riseOB_step l j hj1 hlt
      rw [hr] at hst
      obtain ⟨c1, c2, c5⟩ := hS.cells j hlt
      obtain ⟨c3, c4, c6⟩ := hS.cells (j - 1) (by omega)
      have hji : (j : Int) < (l.length : Int) := by omega
      obtain ⟨k, hk⟩ : ∃ k, j - 1 = k := ⟨_, rfl⟩
      have hkw : (j : Int) - 1 = (k : Int) := by omega
      have hki : (k : Int) < (l.length : Int) := by omega
      have hne : Op.bytesLess l[j - 1].2.1.toList l[j].2.1.toList = ltB l[j - 1].2.1 l[j].2.1 := rfl
      generalize l[j] = p at *
      generalize l[j - 1] = q at *
      rw [hk] at c3 c4 c6
      have o1 := last.On.cell c1 hbl
      have o2 := last.On.cell c2 hbl
      have o3 := last.On.cell c3 hbl
      have o4 := last.On.cell c4 hbl
      have o5 := last.On.cell c5 hbl
      have o6 := last.On.cell c6 hbl
      cases hL : ltB q.2.1 p.2.1
      all_goals
        rw [hL] at hst hne
        have HST := Hid.mk' hst
        clear hst hr hL hS hk
        go_wp2_with fail
        have hinh := last.On.inh wr.heap.size wr
        have hc1 : ∀ x : last.On wr.heap.size wr, Calls Try.prog 163 #[.agg #[.int .i64 p.1, .string p.2.1, .string p.2.2]] x.w fun e w' => e = .returned (.string p.2.1) ∧ ∃ y : last.On wr.heap.size wr, w' = y.w := fun x => last.Calls.on x (Nat.le_refl _) ((i_keyO p x.w).mono fun e w' ⟨he, hw⟩ => ⟨he, by rw [hw]; exact (Below.refl _ _).alloc (Nat.le_refl _) _⟩)
        have hc2 : ∀ x : last.On wr.heap.size wr, Calls Try.prog 163 #[.agg #[.int .i64 q.1, .string q.2.1, .string q.2.2]] x.w fun e w' => e = .returned (.string q.2.1) ∧ ∃ y : last.On wr.heap.size wr, w' = y.w := fun x => last.Calls.on x (Nat.le_refl _) ((i_keyO q x.w).mono fun e w' ⟨he, hw⟩ => ⟨he, by rw [hw]; exact (Below.refl _ _).alloc (Nat.le_refl _) _⟩)
        refine last.wp_region_on wr.heap.size (by kernel_rfl) (by kernel_rfl) ?_
        repeat (go_big_quiet_step ((go_at_call 163; first | exact hc1 _ | exact hc2 _)))
        refine wpQuiet_nil ?_
        intro w5 hw5
        obtain ⟨x5, hw5⟩ := hw5
        subst hw5
        have hB5 : Below w.heap.size w x5.w := hB.trans (x5.2.mono hB.size)
        go_wp2_with fail
      · go_ret
        exact ⟨ret_bool (by rw [HST.out]; rfl), hB5⟩
      · go_roundw
        case rel => exact ⟨j + 1, by omega, by omega, by go_num, by rw [HST.out]; simp, hB5⟩
        case measure => simp [intOf]; omega
    · have HF : Hid (R = true) := by show _ = _; rw [← hr]; exact riseOB_end l j (by omega)
      clear hr
      go_wp2_with fail
      go_ret
      exact ⟨ret_bool (by rw [HF.out]), hB⟩

set_option maxRecDepth 100000 in
set_option maxHeartbeats 2000000 in
theorem impl_opsOk (b off len cap : Nat) (l : List Od) (w : World) (h : SlO w (some ⟨b, off, none⟩) len l) (hks : ∀ p ∈ l, p.2.1.size ≤ 1099511627776) :
    Calls Try.prog 29 #[.slice (some ⟨b, off, none⟩) len cap] w fun e w' => e = .returned (.bool (opsOk l)) ∧ Below w.heap.size w w' := by
  have hl := h.1
  have hm := h.2.1
  have hsm := h.2.2.1
  subst hl
  unfold maxLen at hm
  by_cases h1 : l.length < 1
  · go_enter Try.func29, Try.ntmps29
    go_wp2_with fail
    go_ret
    exact ⟨ret_bool (by unfold opsOk; rw [decide_eq_false (by omega : ¬ (1 ≤ l.length ∧ l.length ≤ 8))]; simp), Below.refl _ _⟩
  by_cases h8 : 8 < l.length
  · go_enter Try.func29, Try.ntmps29
    go_wp2_with fail
    go_ret
    exact ⟨ret_bool (by unfold opsOk; rw [decide_eq_false (by omega : ¬ (1 ≤ l.length ∧ l.length ≤ 8))]; simp), Below.refl _ _⟩
  · have HP : Hid (opsOk l = (l.all odOk && riseOB l)) := by show _ = _; unfold opsOk; rw [opsFrom_split, decide_eq_true (by omega : 1 ≤ l.length ∧ l.length ≤ 8)]; simp
    generalize hA : l.all odOk = A
    have HA := Hid.mk' hA
    clear hA
    go_enter Try.func29, Try.ntmps29
    go_wp2_with fail
    go_loopw [15] (fun i wr => ∃ k : Nat, k ≤ l.length ∧ i = .int .i64 (k : Int) ∧ (l.drop k).all odOk = A ∧ Below w.heap.size w wr) (fun i _ => l.length - (intOf i).toNat)
    case atStart => exact ⟨0, Nat.zero_le _, rfl, HA.out, Below.refl _ _⟩
    case round =>
      obtain ⟨k, hk, rfl, hr, hB⟩ := hrel
      by_cases hlt : k < l.length
      · obtain ⟨c1, c2, c3⟩ := (h.below hB).cells k hlt
        have hpk := hsm _ (List.getElem_mem hlt)
        have hks' := hks _ (List.getElem_mem hlt)
        have hki : (k : Int) < (l.length : Int) := by omega
        have hst := all_dropO l k hlt
        rw [hr] at hst
        have hcall := fun wx => i_opOk l[k] wx hpk hks'
        have hBA : Below w.heap.size w (wr.alloc (.cells #[.int .i64 l[k].1, .string l[k].2.1, .string l[k].2.2] 111)) := hB.alloc hB.size _
        generalize l[k] = p at *
        cases hP : odOk p
        all_goals
          rw [hP] at hst hcall
          have HST := Hid.mk' hst
          have HC := Hid.mk' hcall
          clear hst hr hcall hP
          go_wp2_with fail
          refine (HC.out _).mono ?_
          rintro e w3 ⟨rfl, hb3⟩
          have hB3 : Below w.heap.size w w3 := hBA.trans (hb3.mono hBA.size)
          clear hb3 hBA hB c1 c2 c3
          go_wp2_with fail
        · go_ret
          exact ⟨ret_bool (by rw [HP.out, HA.out, HST.out]; rfl), hB3⟩
        · go_roundw
          case rel => exact ⟨k + 1, by omega, by go_num, by rw [HST.out]; simp, hB3⟩
          case measure => simp [intOf]; omega
      · have HF : Hid (A = true) := by show _ = _; rw [← hr, List.drop_eq_nil_of_le (by omega)]; rfl
        have HI := Hid.mk' (i_risesO b off cap l wr (h.below hB) (by omega))
        clear hr
        go_wp2_with fail
        refine HI.out.mono ?_
        rintro e w3 ⟨rfl, hb3⟩
        have hB3 : Below w.heap.size w w3 := hB.trans (hb3.mono hB.size)
        clear hb3
        go_wp2_with fail
        go_ret
        exact ⟨ret_bool (by rw [HP.out, HA.out, HF.out]; simp), hB3⟩

end Go.Proofs.Yteniflajiklffaa.ords

namespace Go.Proofs.Yteniflajiklffaa.recs
open Go Go.RowKit Go.Proofs.Yteniflajiklffaa.base Go.Proofs.Yteniflajiklffaa.pairs Go.Proofs.Yteniflajiklffaa.ords
set_option linter.unusedVariables false
set_option linter.unusedSimpArgs false

theorem impl_opsOkA (a : Option Addr) (len cap : Nat) (l : List Od) (w : World) (h : SlO w a len l) (hks : ∀ p ∈ l, p.2.1.size ≤ 1099511627776) :
    Calls Try.prog 29 #[.slice a len cap] w fun e w' => e = .returned (.bool (opsOk l)) ∧ Below w.heap.size w w' := by
  by_cases h0 : len = 0
  · subst h0
    obtain rfl : l = [] := List.eq_nil_of_length_eq_zero h.1
    go_enter Try.func29, Try.ntmps29
    go_wp2_with fail
    go_ret
    exact ⟨ret_bool (by decide), Below.refl _ _⟩
  · obtain ⟨b, off, ha, _⟩ := h.2.2.2 (by omega)
    subst ha
    exact impl_opsOk b off len cap l w h hks

set_option maxRecDepth 100000 in
set_option maxHeartbeats 2000000 in
theorem impl_recOk (kind tx : Int) (a : Option Addr) (len cap : Nat) (l : List Od) (w : World) (h : SlO w a len l) (hks : ∀ p ∈ l, p.2.1.size ≤ 1099511627776) :
    Calls Try.prog 85 #[.agg #[.int .i64 kind, .int .i64 tx, .slice a len cap]] w fun e w' => e = .returned (.bool (recOk (kind, tx, l))) ∧ Below w.heap.size w w' := by
  have hba : Below w.heap.size w (w.alloc (.cells #[.int .i64 kind, .int .i64 tx, .slice a len cap] 91)) := (Below.refl _ _).alloc (Nat.le_refl _) _
  have hl := h.1
  have hm := h.2.1
  unfold maxLen at hm
  by_cases ht : 1 ≤ tx ∧ tx ≤ 1000000
  · have HR : Hid (recOk (kind, tx, l) = if kind = 1 then opsOk l else decide (kind = 2 ∨ kind = 3) && l.isEmpty) := by show _ = _; unfold recOk; rw [decide_eq_true ht]; simp
    have ht1 : ¬ tx < 1 := by omega
    have ht2 : ¬ 1000000 < tx := by omega
    clear ht
    by_cases h1 : kind = 1
    · subst h1
      have HO := Hid.mk' (impl_opsOkA a len cap l _ (h.below hba) hks)
      rw [if_pos rfl] at HR
      generalize opsOk l = K at *
      go_enter Try.func85, Try.ntmps85
      go_wp2_with fail
      refine HO.out.mono ?_
      rintro e w1 ⟨rfl, hb1⟩
      go_wp2_with fail
      go_ret
      exact ⟨ret_bool HR.out.symm, hba.trans (hb1.mono hba.size)⟩
    · rw [if_neg h1] at HR
      have hk1 : (kind == 1) = false := beq_eq_false_iff_ne.2 h1
      by_cases h23 : kind = 2 ∨ kind = 3
      · rw [decide_eq_true h23, Bool.true_and] at HR
        by_cases h0 : len = 0
        · have HE : Hid (recOk (kind, tx, l) = true) := by show _ = _; rw [HR.out, List.isEmpty_iff]; exact List.eq_nil_of_length_eq_zero (by omega)
          subst h0
          rcases h23 with rfl | rfl
          all_goals
            clear HR h1 hk1
            go_enter Try.func85, Try.ntmps85
            go_wp2_with fail
            go_ret
            exact ⟨ret_bool HE.out.symm, hba⟩
        · have HE : Hid (recOk (kind, tx, l) = false) := by
            show _ = _
            rw [HR.out]
            cases l with
            | nil => simp at hl; omega
            | cons x l => rfl
          have hl0 : ((len : Int) == 0) = false := by simp; omega
          rcases h23 with rfl | rfl
          all_goals
            clear HR h1 hk1
            go_enter Try.func85, Try.ntmps85
            go_wp2_with fail
            go_ret
            exact ⟨ret_bool HE.out.symm, hba⟩
      · rw [decide_eq_false h23, Bool.false_and] at HR
        have hk2 : (kind == 2) = false := beq_eq_false_iff_ne.2 (fun e => h23 (.inl e))
        have hk3 : (kind == 3) = false := beq_eq_false_iff_ne.2 (fun e => h23 (.inr e))
        clear h1 h23
        go_enter Try.func85, Try.ntmps85
        go_wp2_with fail
        go_ret
        exact ⟨ret_bool HR.out.symm, hba⟩
  · have HR : Hid (recOk (kind, tx, l) = false) := by show _ = _; unfold recOk; rw [decide_eq_false ht]; rfl
    by_cases ht1 : tx < 1
    · clear ht
      go_enter Try.func85, Try.ntmps85
      go_wp2_with fail
      go_ret
      exact ⟨ret_bool HR.out.symm, hba⟩
    · have ht2 : 1000000 < tx := by omega
      clear ht
      go_enter Try.func85, Try.ntmps85
      go_wp2_with fail
      go_ret
      exact ⟨ret_bool HR.out.symm, hba⟩
end Go.Proofs.Yteniflajiklffaa.recs

namespace Go.Proofs.Yteniflajiklffaa.hash
open Go.RowKit Go.Proofs.Yteniflajiklffaa.base
set_option linter.unusedVariables false
set_option linter.unusedSimpArgs false

end Go.Proofs.Yteniflajiklffaa.hash

namespace Go.Proofs.Yteniflajiklffaa.ords
open Go Go.RowKit Go.Proofs.Yteniflajiklffaa.base Go.Proofs.Yteniflajiklffaa.pairs
set_option linter.unusedVariables false
set_option linter.unusedSimpArgs false

theorem meets_drop (m : List Pr) (l : List Od) (k : Nat) (h : k < l.length) : meets m (l.drop k) = (meet1 m l[k] && meets m (l.drop (k + 1))) := by
  rw [List.drop_eq_getElem_cons h]; rfl

set_option maxRecDepth 100000 in
set_option maxHeartbeats 2000000 in
theorem spec_meets (a : Option Addr) (len cap : Nat) (m : List Pr) (a2 : Option Addr) (len2 cap2 : Nat) (l : List Od) (w : World) (h : SlP w a len m) (h2 : SlO w a2 len2 l) :
    Calls Try.prog 81 #[.slice a len cap, .slice a2 len2 cap2] w fun e w' => e = .returned (.bool (meets m l)) ∧ Below w.heap.size w w' := by
  have hl := h2.1
  have hm := h2.2.1
  subst hl
  unfold maxLen at hm
  generalize hR : meets m l = R
  have HR := Hid.mk' hR
  clear hR
  go_enter Try.func81, Try.ntmps81
  go_wp2_with fail
  go_loopw [5] (fun i wr => ∃ k : Nat, k ≤ l.length ∧ i = .int .i64 (k : Int) ∧ meets m (l.drop k) = R ∧ Below w.heap.size w wr) (fun i _ => l.length - (intOf i).toNat)
  case atStart => exact ⟨0, Nat.zero_le _, rfl, HR.out, Below.refl _ _⟩
  case round =>
    obtain ⟨k, hk, rfl, hr, hB⟩ := hrel
    by_cases hlt : k < l.length
    · obtain ⟨b, off, ha, hcl⟩ := h2.2.2.2 (by omega)
      subst ha
      have hS := h2.below hB
      obtain ⟨c0, c1, c2⟩ := hS.cells k hlt
      have hP := h.below hB
      have hst := meets_drop m l k hlt
      rw [hr] at hst
      have hki : (k : Int) < (l.length : Int) := by omega
      unfold meet1 at hst
      have HG := Hid.mk' (spec_getKey a len cap m l[k].2.1 wr hP)
      generalize getKey l[k].2.1 m = G at *
      have HST := Hid.mk' hst
      clear hst hr hS hcl hP
      generalize l[k] = o at *
      obtain ⟨z, key, val⟩ := o
      simp only [] at c0 c1 c2
      by_cases hz : z = 3
      · subst hz
        cases G with
        | none =>
          simp only [getRet] at HG
          by_cases hv : val.size = 0
          · have HF : Hid (meets m (l.drop (k + 1)) = R) := by show _ = _; have := HST.out; simp [hv] at this; exact this.symm
            obtain rfl := size_empty hv
            clear HST hv
            go_wp2_with fail
            refine HG.out.mono ?_
            rintro e w1 ⟨rfl, hw1⟩
            subst hw1
            go_wp2_with fail
            go_roundw
            case rel => exact ⟨k + 1, by omega, by go_num, HF.out, by first | exact hB | exact hB.drew⟩
            case measure => simp [intOf]; omega
          · have HF : Hid (R = false) := by show _ = _; have := HST.out; simpa [hv] using this
            obtain ⟨hq, hq2⟩ := not_empty hv
            clear HST hv
            go_wp2_with fail
            refine HG.out.mono ?_
            rintro e w1 ⟨rfl, hw1⟩
            subst hw1
            go_wp2_with fail
            go_ret
            exact ⟨ret_bool HF.out.symm, by first | exact hB | exact hB.drew⟩
        | some v =>
          simp only [getRet] at HG
          by_cases hv : val.size = 0
          · have HF : Hid (R = false) := by show _ = _; have := HST.out; simpa [hv] using this
            obtain rfl := size_empty hv
            clear HST hv
            go_wp2_with fail
            refine HG.out.mono ?_
            rintro e w1 ⟨rfl, hw1⟩
            subst hw1
            go_wp2_with fail
            go_ret
            exact ⟨ret_bool HF.out.symm, by first | exact hB | exact hB.drew⟩
          · obtain ⟨hq, hq2⟩ := not_empty hv
            by_cases hvv : v = val
            · have HF : Hid (meets m (l.drop (k + 1)) = R) := by show _ = _; have := HST.out; simp [hv, hvv] at this; exact this.symm
              subst hvv
              clear HST hv
              go_wp2_with fail
              refine HG.out.mono ?_
              rintro e w1 ⟨rfl, hw1⟩
              subst hw1
              go_wp2_with fail
              go_roundw
              case rel => exact ⟨k + 1, by omega, by go_num, HF.out, by first | exact hB | exact hB.drew⟩
              case measure => simp [intOf]; omega
            · have HF : Hid (R = false) := by show _ = _; have := HST.out; simpa [hv, hvv] using this
              have hne := str_ne hvv
              clear HST hv hvv
              go_wp2_with fail
              refine HG.out.mono ?_
              rintro e w1 ⟨rfl, hw1⟩
              subst hw1
              go_wp2_with fail
              go_ret
              exact ⟨ret_bool HF.out.symm, by first | exact hB | exact hB.drew⟩
      · have HF : Hid (meets m (l.drop (k + 1)) = R) := by show _ = _; have := HST.out; simp [hz] at this; exact this.symm
        have hzz : (z == 3) = false := beq_eq_false_iff_ne.2 hz
        clear HST hz
        go_wp2_with fail
        go_roundw
        case rel => exact ⟨k + 1, by omega, by go_num, HF.out, hB⟩
        case measure => simp [intOf]; omega
    · have HF : Hid (R = true) := by show _ = _; rw [← hr, List.drop_eq_nil_of_le (by omega)]; rfl
      clear hr
      go_wp2_with fail
      go_ret
      exact ⟨ret_bool HF.out.symm, hB⟩
end Go.Proofs.Yteniflajiklffaa.ords

namespace Go.Proofs.Yteniflajiklffaa.ords
open Go Go.RowKit Go.Proofs.Yteniflajiklffaa.base Go.Proofs.Yteniflajiklffaa.pairs
set_option linter.unusedVariables false
set_option linter.unusedSimpArgs false

theorem apply1_length (m : List Pr) (o : Od) : (apply1 m o).length ≤ m.length + 1 := by
  unfold apply1
  split
  · exact (putKey_length _ _ _).1
  · split
    · exact Nat.le_trans (List.length_filter_le _ _) (by omega)
    · omega
set_option maxRecDepth 100000 in
set_option maxHeartbeats 2000000 in
theorem spec_apply (b off len cap : Nat) (m : List Pr) (a2 : Option Addr) (len2 cap2 : Nat) (l : List Od) (w : World) (h : SlP w (some ⟨b, off, none⟩) len m) (h2 : SlO w a2 len2 l) (hsz : len + len2 ≤ 1099511627776) :
    Calls Try.prog 83 #[.slice (some ⟨b, off, none⟩) len cap, .slice a2 len2 cap2] w fun e w' =>
      ∃ g' n' cap', e = .returned (.slice (some ⟨g', 0, none⟩) n' cap') ∧ OwnP w' w.heap.size g' n' cap' (applyAll m l) ∧ Below w.heap.size w w' := by
  obtain ⟨i0, hif, hz0, hz1, hz2⟩ := info_parts infoP
  have hl := h.1
  have hsm := h.2.2.1
  have hl2 := h2.1
  have hsm2 := h2.2.2.1
  subst hl hl2
  have hba : Below w.heap.size w (w.alloc (.cells #[] 102)) := (Below.refl _ _).alloc (Nat.le_refl _) _
  have HC := Hid.mk' (cells_pairs (h.below hba).cells)
  have hn0 := pairVals_length m
  have hm1 : 0 + m.length ≤ maxLen := by unfold maxLen; omega
  have hm2 : (0 + m.length) * 32 ≤ 140737488355328 := by omega
  have hown0 := (ownP_made w w.heap.size (Nat.le_refl _)).2.2
  go_enter Try.func83, Try.ntmps83
  go_wp2_with (at_builtin; refine wpList_append_own _ rfl (.tmp 7) (.tmp 8) 47 rfl w.heap.size 102 i0 (.agg #[.string ⟨#[]⟩, .string ⟨#[]⟩]) 2 32 Try.underlying47 hif hz0 hz1 hz2 rfl (by decide) _ _ _ rfl hown0 ⟨b, off, none⟩ m.length cap (pairVals m) rfl hn0 HC.out (pairVals_oneCell _) hm1 hm2 (le_alloc _ _ (Nat.le_refl _)) ?_)
  intro v1 w1 hown hgrow hnn
  have hnn' : ¬ v1 = .slice none 0 0 := by simpa using hnn
  obtain ⟨g1, cap1, hv, hO1⟩ := ownP_val rfl hsm hnn' (by simpa [pairVals] using hown)
  subst hv
  have hB1 : Below w.heap.size w w1 := hba.grown hgrow (le_alloc _ _ (Nat.le_refl _)) (fun k e => by simp [Value.ownBlock] at e; omega)
  clear hown hgrow hnn hnn' hown0 HC hn0 hm1 hm2 hba
  go_wp2_with (at_builtin; fail)
  go_loopw [5, 6] (fun v i wr => ∃ (k g n cp : Nat), k ≤ l.length ∧ n ≤ m.length + k ∧ i = .int .i64 (k : Int) ∧ v = .slice (some ⟨g, 0, none⟩) n cp ∧ OwnP wr w.heap.size g n cp (applyAll m (l.take k)) ∧ Below w.heap.size w wr) (fun _ i _ => l.length - (intOf i).toNat)
  case atStart => exact ⟨0, g1, _, cap1, Nat.zero_le _, by omega, rfl, rfl, hO1, hB1⟩
  case round =>
    clear hO1 hB1
    obtain ⟨k, g, n, cp, hk, hn, rfl, rfl, hO, hB⟩ := hrel
    by_cases hlt : k < l.length
    · obtain ⟨b2, off2, ha, hcl⟩ := h2.2.2.2 (by omega)
      subst ha
      obtain ⟨c0, c1, c2⟩ := (h2.below hB).cells k hlt
      have hpk := hsm2 _ (List.getElem_mem hlt)
      have hki : (k : Int) < (l.length : Int) := by omega
      have HU := Hid.mk' (apply_take m l k hlt)
      have hpl := apply1_length (applyAll m (l.take k)) l[k]
      have hOd : OwnP wr.drew w.heap.size g n cp (applyAll m (l.take k)) := hO
      have hcs := hO.cases
      have hul := hO.1
      generalize l[k] = p at *
      generalize applyAll m (l.take k) = u at *
      obtain ⟨z, key, val⟩ := p
      simp only [] at c0 c1 c2 hpk
      clear hcl
      by_cases hz : z = 1
      · subst hz
        have HU2 : Hid (applyAll m (l.take (k + 1)) = putKey key val u) := by show _ = _; rw [HU.out]; rfl
        have hpl2 := (putKey_length key val u).1
        clear HU hpl
        go_wp2_with (at_builtin; fail)
        go_region_held3 (fun w' => w'.cell? ⟨b2, off2 + k * 3 + 1, none⟩ = some (.string key) ∧ w'.cell? ⟨b2, off2 + k * 3 + 2, none⟩ = some (.string val)) (first | (exact keepB2 hb5 (by assumption)) | (go_keep)) (first | (go_at_call 122; refine (spec_putKey g 0 n cp u key val _ hOd.sl hcs.1 (by omega) hpk.2.1 hpk.2.2).mono ?_; rintro e w5 ⟨g5, n5, cp5, rfl, hO5, hb5⟩))
        all_goals
          have hB5 : Below w.heap.size w w5 := hB.drew.trans (hb5.mono hB.size)
          have hO5' := hO5.mono (base' := w.heap.size) hB.size
          rw [← HU2.out] at hO5'
          have hn5 : n5 ≤ m.length + (k + 1) := by have := hO5.1; omega
          have HO5 := Hid.mk' hO5'
          clear hb5 hO5 hO5' hO hOd hB c0 c1 c2
          go_wp2_with (at_builtin; fail)
          go_roundw
          case rel => exact ⟨k + 1, g5, n5, cp5, by omega, hn5, by go_num, rfl, HO5.out, hB5⟩
          case measure => simp [intOf]; omega
      · have hb1 : (z == 1) = false := beq_eq_false_iff_ne.2 hz
        by_cases hz2 : z = 2
        · subst hz2
          have HU2 : Hid (applyAll m (l.take (k + 1)) = delKey key u) := by show _ = _; rw [HU.out]; rfl
          have hpl2 : (delKey key u).length ≤ u.length := List.length_filter_le _ _
          clear HU hpl hz
          go_wp2_with (at_builtin; fail)
          refine (spec_delKey g 0 n cp u key _ hO.sl (by omega)).mono ?_
          rintro e w5 ⟨g5, n5, cp5, rfl, hO5, hb5⟩
          have hB5 : Below w.heap.size w w5 := hB.trans (hb5.mono hB.size)
          have hO5' := hO5.mono (base' := w.heap.size) hB.size
          rw [← HU2.out] at hO5'
          have hn5 : n5 ≤ m.length + (k + 1) := by have := hO5.1; omega
          have HO5 := Hid.mk' hO5'
          clear hb5 hO5 hO5' hO hOd hB c0 c1 c2
          go_wp2_with (at_builtin; fail)
          go_roundw
          case rel => exact ⟨k + 1, g5, n5, cp5, by omega, hn5, by go_num, rfl, HO5.out, hB5⟩
          case measure => simp [intOf]; omega
        · have hb2 : (z == 2) = false := beq_eq_false_iff_ne.2 hz2
          have HU2 : Hid (applyAll m (l.take (k + 1)) = u) := by show _ = _; rw [HU.out]; unfold apply1; rw [if_neg hz, if_neg hz2]
          clear HU hpl hz hz2
          go_wp2_with (at_builtin; fail)
          go_roundw
          case rel => exact ⟨k + 1, g, n, cp, by omega, by omega, by go_num, rfl, by rw [HU2.out]; exact hO, hB⟩
          case measure => simp [intOf]; omega
    · have HE : Hid (l.take k = l) := List.take_of_length_le (by omega)
      go_wp2_with (at_builtin; fail)
      go_ret
      rw [HE.out] at hO
      exact ⟨g, n, cp, rfl, hO, hB⟩
theorem append_nothingP (w : World) (g c : Nat) (ty : TypeId) : (Builtin.append_ #[47, 47] ty #[.slice (some ⟨g, 0, none⟩) 0 0, .slice none 0 c]).run Try.prog w = .ok (.slice (some ⟨g, 0, none⟩) 0 0) w := by kernel_rfl
set_option maxRecDepth 100000 in
set_option maxHeartbeats 2000000 in
theorem spec_apply_nil (cap : Nat) (m : List Pr) (a2 : Option Addr) (len2 cap2 : Nat) (l : List Od) (w : World) (hm : m = []) (h2 : SlO w a2 len2 l) (hsz : len2 ≤ 1099511627776) :
    Calls Try.prog 83 #[.slice none 0 cap, .slice a2 len2 cap2] w fun e w' =>
      ∃ g' n' cap', e = .returned (.slice (some ⟨g', 0, none⟩) n' cap') ∧ OwnP w' w.heap.size g' n' cap' (applyAll m l) ∧ Below w.heap.size w w' := by
  have hl2 := h2.1
  have hsm2 := h2.2.2.1
  have hml : m.length = 0 := by rw [hm]; rfl
  subst hl2
  have hba : Below w.heap.size w (w.alloc (.cells #[] 102)) := (Below.refl _ _).alloc (Nat.le_refl _) _
  have hO1 : OwnP (w.alloc (.cells #[] 102)) w.heap.size w.heap.size 0 0 (applyAll m (l.take 0)) := by rw [hm]; exact ownP_made w w.heap.size (Nat.le_refl _)
  have han := append_nothingP
  have HM := Hid.mk' hml
  clear hm hml
  go_enter Try.func83, Try.ntmps83
  go_wp2_with (at_builtin; fail)
  go_loopw [5, 6] (fun v i wr => ∃ (k g n cp : Nat), k ≤ l.length ∧ n ≤ m.length + k ∧ i = .int .i64 (k : Int) ∧ v = .slice (some ⟨g, 0, none⟩) n cp ∧ OwnP wr w.heap.size g n cp (applyAll m (l.take k)) ∧ Below w.heap.size w wr) (fun _ i _ => l.length - (intOf i).toNat)
  case atStart => exact ⟨0, _, 0, 0, Nat.zero_le _, Nat.zero_le _, rfl, rfl, hO1, hba⟩
  case round =>
    have hml := HM.out
    clear hO1 hba HM han
    obtain ⟨k, g, n, cp, hk, hn, rfl, rfl, hO, hB⟩ := hrel
    by_cases hlt : k < l.length
    · obtain ⟨b2, off2, ha, hcl⟩ := h2.2.2.2 (by omega)
      subst ha
      obtain ⟨c0, c1, c2⟩ := (h2.below hB).cells k hlt
      have hpk := hsm2 _ (List.getElem_mem hlt)
      have hki : (k : Int) < (l.length : Int) := by omega
      have HU := Hid.mk' (apply_take m l k hlt)
      have hpl := apply1_length (applyAll m (l.take k)) l[k]
      have hOd : OwnP wr.drew w.heap.size g n cp (applyAll m (l.take k)) := hO
      have hcs := hO.cases
      have hul := hO.1
      generalize l[k] = p at *
      generalize applyAll m (l.take k) = u at *
      obtain ⟨z, key, val⟩ := p
      simp only [] at c0 c1 c2 hpk
      clear hcl
      by_cases hz : z = 1
      · subst hz
        have HU2 : Hid (applyAll m (l.take (k + 1)) = putKey key val u) := by show _ = _; rw [HU.out]; rfl
        have hpl2 := (putKey_length key val u).1
        clear HU hpl
        go_wp2_with (at_builtin; fail)
        go_region_held3 (fun w' => w'.cell? ⟨b2, off2 + k * 3 + 1, none⟩ = some (.string key) ∧ w'.cell? ⟨b2, off2 + k * 3 + 2, none⟩ = some (.string val)) (first | (exact keepB2 hb5 (by assumption)) | (go_keep)) (first | (go_at_call 122; refine (spec_putKey g 0 n cp u key val _ hOd.sl hcs.1 (by omega) hpk.2.1 hpk.2.2).mono ?_; rintro e w5 ⟨g5, n5, cp5, rfl, hO5, hb5⟩))
        all_goals
          have hB5 : Below w.heap.size w w5 := hB.drew.trans (hb5.mono hB.size)
          have hO5' := hO5.mono (base' := w.heap.size) hB.size
          rw [← HU2.out] at hO5'
          have hn5 : n5 ≤ m.length + (k + 1) := by have := hO5.1; omega
          have HO5 := Hid.mk' hO5'
          clear hb5 hO5 hO5' hO hOd hB c0 c1 c2
          go_wp2_with (at_builtin; fail)
          go_roundw
          case rel => exact ⟨k + 1, g5, n5, cp5, by omega, hn5, by go_num, rfl, HO5.out, hB5⟩
          case measure => simp [intOf]; omega
      · have hb1 : (z == 1) = false := beq_eq_false_iff_ne.2 hz
        by_cases hz2 : z = 2
        · subst hz2
          have HU2 : Hid (applyAll m (l.take (k + 1)) = delKey key u) := by show _ = _; rw [HU.out]; rfl
          have hpl2 : (delKey key u).length ≤ u.length := List.length_filter_le _ _
          clear HU hpl hz
          go_wp2_with (at_builtin; fail)
          refine (spec_delKey g 0 n cp u key _ hO.sl (by omega)).mono ?_
          rintro e w5 ⟨g5, n5, cp5, rfl, hO5, hb5⟩
          have hB5 : Below w.heap.size w w5 := hB.trans (hb5.mono hB.size)
          have hO5' := hO5.mono (base' := w.heap.size) hB.size
          rw [← HU2.out] at hO5'
          have hn5 : n5 ≤ m.length + (k + 1) := by have := hO5.1; omega
          have HO5 := Hid.mk' hO5'
          clear hb5 hO5 hO5' hO hOd hB c0 c1 c2
          go_wp2_with (at_builtin; fail)
          go_roundw
          case rel => exact ⟨k + 1, g5, n5, cp5, by omega, hn5, by go_num, rfl, HO5.out, hB5⟩
          case measure => simp [intOf]; omega
        · have hb2 : (z == 2) = false := beq_eq_false_iff_ne.2 hz2
          have HU2 : Hid (applyAll m (l.take (k + 1)) = u) := by show _ = _; rw [HU.out]; unfold apply1; rw [if_neg hz, if_neg hz2]
          clear HU hpl hz hz2
          go_wp2_with (at_builtin; fail)
          go_roundw
          case rel => exact ⟨k + 1, g, n, cp, by omega, by omega, by go_num, rfl, by rw [HU2.out]; exact hO, hB⟩
          case measure => simp [intOf]; omega
    · have HE : Hid (l.take k = l) := List.take_of_length_le (by omega)
      go_wp2_with (at_builtin; fail)
      go_ret
      rw [HE.out] at hO
      exact ⟨g, n, cp, rfl, hO, hB⟩
theorem spec_applyV (a : Option Addr) (len cap : Nat) (m : List Pr) (a2 : Option Addr) (len2 cap2 : Nat) (l : List Od) (w : World) (h : SlP w a len m) (hoff : ∀ ad, a = some ad → ad.spot = none) (h2 : SlO w a2 len2 l) (hsz : len + len2 ≤ 1099511627776) :
    Calls Try.prog 83 #[.slice a len cap, .slice a2 len2 cap2] w fun e w' =>
      ∃ g' n' cap', e = .returned (.slice (some ⟨g', 0, none⟩) n' cap') ∧ OwnP w' w.heap.size g' n' cap' (applyAll m l) ∧ Below w.heap.size w w' := by
  cases a with
  | none =>
    have h0 : len = 0 := by
      rcases Nat.eq_zero_or_pos len with e | e
      · exact e
      · obtain ⟨b, off, ha, _⟩ := h.2.2.2 e; cases ha
    subst h0
    exact spec_apply_nil cap m a2 len2 cap2 l w (List.eq_nil_of_length_eq_zero h.1) h2 (by omega)
  | some ad =>
    obtain ⟨b, off, sp⟩ := ad
    obtain rfl : sp = none := hoff _ rfl
    exact spec_apply b off len cap m a2 len2 cap2 l w h h2 hsz

theorem cells_three (w : World) (v1 v2 v3 : Value) (t : TypeId) : ∀ j u, [v1, v2, v3][j]? = some u → (w.alloc (.cells #[v1, v2, v3] t)).cell? ((⟨w.heap.size, 0, none⟩ : Addr).add j) = some u := by
  intro j u hj
  have hl : j < 3 := by have := (List.getElem?_eq_some_iff.1 hj).1; simpa using this
  rw [Addr.add_lit]
  match j, hl with
  | 0, _ => simp at hj; subst hj; simp [go_sem]
  | 1, _ => simp at hj; subst hj; simp [go_sem]
  | 2, _ => simp at hj; subst hj; simp [go_sem]
end Go.Proofs.Yteniflajiklffaa.ords

namespace Go.Proofs.Yteniflajiklffaa.pairs
open Go Go.RowKit Go.Proofs.Yteniflajiklffaa.base
set_option linter.unusedVariables false
set_option linter.unusedSimpArgs false

end Go.Proofs.Yteniflajiklffaa.pairs

namespace Go.Proofs.Yteniflajiklffaa.ords
open Go Go.RowKit Go.Proofs.Yteniflajiklffaa.base Go.Proofs.Yteniflajiklffaa.pairs
set_option linter.unusedVariables false
set_option linter.unusedSimpArgs false

def need1 (m : List Pr) (k v : ByteArray) : Bool := match getKey k m with | none => decide (v.size = 0) | some x => decide (v.size ≠ 0) && decide (x = v)
theorem meet1_need (m : List Pr) (z : Int) (k v : ByteArray) : meet1 m (z, k, v) = (decide (z ≠ 3) || need1 m k v) := rfl

set_option maxRecDepth 100000 in
set_option maxHeartbeats 1000000 in
theorem i_needHolds (b off len cap : Nat) (m : List Pr) (z : Int) (k v : ByteArray) (w : World) (h : SlP w (some ⟨b, off, none⟩) len m) :
    Calls Try.prog 125 #[.slice (some ⟨b, off, none⟩) len cap, .agg #[.int .i64 z, .string k, .string v]] w fun e w' => e = .returned (.bool (need1 m k v)) ∧ Below w.heap.size w w' := by
  have hba : Below w.heap.size w (w.alloc (.cells #[.int .i64 z, .string k, .string v] 111)) := (Below.refl _ _).alloc (Nat.le_refl _) _
  have hG := impl_getKey b off len cap m k _ (h.below hba)
  unfold need1
  cases hg : getKey k m with
  | none =>
    rw [hg] at hG
    simp only [getRet] at hG ⊢
    have HG := Hid.mk' hG
    clear hG hg
    by_cases hv : v.size = 0
    · rw [decide_eq_true hv]
      obtain rfl := size_empty hv
      clear hv
      go_enter Try.func125, Try.ntmps125
      go_wp2_with fail
      refine HG.out.mono ?_
      rintro e w1 ⟨rfl, hb1⟩
      have hc := bcell hb1
      go_wp2_with fail
      go_ret
      exact ⟨rfl, hba.trans (hb1.mono hba.size)⟩
    · rw [decide_eq_false hv]
      obtain ⟨hq, hq2⟩ := not_empty hv
      clear hv
      go_enter Try.func125, Try.ntmps125
      go_wp2_with fail
      refine HG.out.mono ?_
      rintro e w1 ⟨rfl, hb1⟩
      have hc := bcell hb1
      go_wp2_with fail
      go_ret
      exact ⟨rfl, hba.trans (hb1.mono hba.size)⟩
  | some x =>
    rw [hg] at hG
    simp only [getRet] at hG ⊢
    have HG := Hid.mk' hG
    clear hG hg
    by_cases hv : v.size = 0
    · have HF : Hid ((decide (v.size ≠ 0) && decide (x = v)) = false) := by show _ = _; simp [hv]
      rw [HF.out]
      clear HF
      obtain rfl := size_empty hv
      clear hv
      go_enter Try.func125, Try.ntmps125
      go_wp2_with fail
      refine HG.out.mono ?_
      rintro e w1 ⟨rfl, hb1⟩
      have hc := bcell hb1
      go_wp2_with fail
      go_ret
      exact ⟨rfl, hba.trans (hb1.mono hba.size)⟩
    · obtain ⟨hq, hq2⟩ := not_empty hv
      by_cases hx : x = v
      · have HF : Hid ((decide (v.size ≠ 0) && decide (x = v)) = true) := by show _ = _; simp [hv, hx]
        rw [HF.out]
        clear HF hv
        subst hx
        go_enter Try.func125, Try.ntmps125
        go_wp2_with fail
        refine HG.out.mono ?_
        rintro e w1 ⟨rfl, hb1⟩
        have hc := bcell hb1
        go_wp2_with fail
        go_ret
        exact ⟨rfl, hba.trans (hb1.mono hba.size)⟩
      · have HF : Hid ((decide (v.size ≠ 0) && decide (x = v)) = false) := by show _ = _; simp [hx]
        rw [HF.out]
        have hne := str_ne hx
        clear HF hv hx
        go_enter Try.func125, Try.ntmps125
        go_wp2_with fail
        refine HG.out.mono ?_
        rintro e w1 ⟨rfl, hb1⟩
        have hc := bcell hb1
        go_wp2_with fail
        go_ret
        exact ⟨rfl, hba.trans (hb1.mono hba.size)⟩

set_option maxRecDepth 100000 in
set_option maxHeartbeats 2000000 in
theorem impl_meets (b off len cap : Nat) (m : List Pr) (b2 off2 len2 cap2 : Nat) (l : List Od) (w : World) (h : SlP w (some ⟨b, off, none⟩) len m) (h2 : SlO w (some ⟨b2, off2, none⟩) len2 l) (hsz : len + len2 ≤ 1099511627776) :
    Calls Try.prog 87 #[.slice (some ⟨b, off, none⟩) len cap, .slice (some ⟨b2, off2, none⟩) len2 cap2] w fun e w' => e = .returned (.bool (meets m l)) ∧ Below w.heap.size w w' := by
  have hl := h2.1
  subst hl
  generalize hR : meets m l = R
  have HR := Hid.mk' hR
  clear hR
  go_enter Try.func87, Try.ntmps87
  go_wp2_with fail
  go_loopw [9] (fun i wr => ∃ k : Nat, k ≤ l.length ∧ i = .int .i64 (k : Int) ∧ meets m (l.drop k) = R ∧ Below w.heap.size w wr) (fun i _ => l.length - (intOf i).toNat)
  case atStart => exact ⟨0, Nat.zero_le _, rfl, HR.out, Below.refl _ _⟩
  case round =>
    obtain ⟨k, hk, rfl, hr, hB⟩ := hrel
    by_cases hlt : k < l.length
    · obtain ⟨c0, c1, c2⟩ := (h2.below hB).cells k hlt
      have hst := meets_drop m l k hlt
      rw [hr] at hst
      have hki : (k : Int) < (l.length : Int) := by omega
      generalize l[k] = o at *
      obtain ⟨z, key, val⟩ := o
      simp only [] at c0 c1 c2
      rw [meet1_need] at hst
      have hBA : Below w.heap.size w (wr.alloc (.cells #[.int .i64 z, .string key, .string val] 111)) := hB.alloc hB.size _
      have hC := i_needHolds b off len cap m z key val _ (h.below hBA)
      by_cases hz : z = 3
      · subst hz
        cases hN : need1 m key val
        all_goals
          rw [hN] at hst hC
          have HST := Hid.mk' hst
          have HC := Hid.mk' hC
          clear hst hr hC hN
          go_wp2_with fail
          refine HC.out.mono ?_
          rintro e w3 ⟨rfl, hb3⟩
          have hB3 : Below w.heap.size w w3 := hBA.trans (hb3.mono hBA.size)
          clear hb3 hBA hB c0 c1 c2
          go_wp2_with fail
        · go_ret
          exact ⟨ret_bool (by rw [HST.out]; rfl), hB3⟩
        · go_roundw
          case rel => exact ⟨k + 1, by omega, by go_num, by rw [HST.out]; simp, hB3⟩
          case measure => simp [intOf]; omega
      · have HF : Hid (meets m (l.drop (k + 1)) = R) := by show _ = _; simp [hz] at hst; exact hst.symm
        have hzz : (z == 3) = false := beq_eq_false_iff_ne.2 hz
        clear hst hr hz hC
        go_wp2_with fail
        go_roundw
        case rel => exact ⟨k + 1, by omega, by go_num, HF.out, hBA⟩
        case measure => simp [intOf]; omega
    · have HF : Hid (R = true) := by show _ = _; rw [← hr, List.drop_eq_nil_of_le (by omega)]; rfl
      clear hr
      go_wp2_with fail
      go_ret
      exact ⟨ret_bool HF.out.symm, hB⟩

set_option maxRecDepth 100000 in
set_option maxHeartbeats 2000000 in
theorem impl_apply (b off len cap : Nat) (m : List Pr) (b2 off2 len2 cap2 : Nat) (l : List Od) (w : World) (h : SlP w (some ⟨b, off, none⟩) len m) (h2 : SlO w (some ⟨b2, off2, none⟩) len2 l) (hcap : len ≤ cap) (hsz : len + len2 ≤ 1099511627776) :
    Calls Try.prog 88 #[.slice (some ⟨b, off, none⟩) len cap, .slice (some ⟨b2, off2, none⟩) len2 cap2] w fun e w' =>
      ∃ g' n' cap', e = .returned (.slice (some ⟨g', 0, none⟩) n' cap') ∧ OwnP w' w.heap.size g' n' cap' (applyAll m l) ∧ Below w.heap.size w w' := by
  obtain ⟨i0, hif, hz0, hz1, hz2⟩ := info_parts infoP
  have hl := h.1
  have hsm := h.2.2.1
  have hl2 := h2.1
  have hsm2 := h2.2.2.1
  subst hl hl2
  have hba : Below w.heap.size w (w.alloc (.cells #[] 102)) := (Below.refl _ _).alloc (Nat.le_refl _) _
  have HC := Hid.mk' (cells_pairs (h.below hba).cells)
  have hn0 := pairVals_length m
  have hm1 : 0 + m.length ≤ maxLen := by unfold maxLen; omega
  have hm2 : (0 + m.length) * 32 ≤ 140737488355328 := by omega
  have hown0 := (ownP_made w w.heap.size (Nat.le_refl _)).2.2
  go_enter Try.func88, Try.ntmps88
  go_wp2_with (at_builtin; refine wpList_append_own _ rfl (.tmp 8) (.tmp 9) 47 rfl w.heap.size 102 i0 (.agg #[.string ⟨#[]⟩, .string ⟨#[]⟩]) 2 32 Try.underlying47 hif hz0 hz1 hz2 rfl (by decide) _ _ _ rfl hown0 ⟨b, off, none⟩ m.length cap (pairVals m) rfl hn0 HC.out (pairVals_oneCell _) hm1 hm2 (le_alloc _ _ (Nat.le_refl _)) ?_)
  intro v1 w1 hown hgrow hnn
  have hnn' : ¬ v1 = .slice none 0 0 := by simpa using hnn
  obtain ⟨g1, cap1, hv, hO1⟩ := ownP_val rfl hsm hnn' (by simpa [pairVals] using hown)
  subst hv
  have hB1 : Below w.heap.size w w1 := hba.grown hgrow (le_alloc _ _ (Nat.le_refl _)) (fun k e => by simp [Value.ownBlock] at e; omega)
  clear hown hgrow hnn hnn' hown0 HC hn0 hm1 hm2 hba
  go_wp2_with (at_builtin; fail)
  go_loopw [5, 13] (fun v i wr => ∃ (k g n cp : Nat), k ≤ l.length ∧ n ≤ m.length + k ∧ i = .int .i64 (k : Int) ∧ v = .slice (some ⟨g, 0, none⟩) n cp ∧ OwnP wr w.heap.size g n cp (applyAll m (l.take k)) ∧ Below w.heap.size w wr) (fun _ i _ => l.length - (intOf i).toNat)
  case atStart => exact ⟨0, g1, _, cap1, Nat.zero_le _, by omega, rfl, rfl, hO1, hB1⟩
  case round =>
    clear hO1 hB1
    obtain ⟨k, g, n, cp, hk, hn, rfl, rfl, hO, hB⟩ := hrel
    by_cases hlt : k < l.length
    · obtain ⟨c0, c1, c2⟩ := (h2.below hB).cells k hlt
      have hpk := hsm2 _ (List.getElem_mem hlt)
      have hki : (k : Int) < (l.length : Int) := by omega
      have HU := Hid.mk' (apply_take m l k hlt)
      have hpl := apply1_length (applyAll m (l.take k)) l[k]
      have hcs := hO.cases
      have hul := hO.1
      have hBA : Below w.heap.size w (wr.alloc (.cells #[.int .i64 l[k].1, .string l[k].2.1, .string l[k].2.2] 111)) := hB.alloc hB.size _
      have hOA : OwnP (wr.alloc (.cells #[.int .i64 l[k].1, .string l[k].2.1, .string l[k].2.2] 111)) w.heap.size g n cp (applyAll m (l.take k)) := hO.below ((Below.refl _ _).alloc (Nat.le_refl _) _)
      generalize l[k] = p at *
      generalize applyAll m (l.take k) = u at *
      obtain ⟨z, key, val⟩ := p
      simp only [] at c0 c1 c2 hpk hBA hOA
      by_cases hz : z = 1
      · subst hz
        have HU2 : Hid (applyAll m (l.take (k + 1)) = putKey key val u) := by show _ = _; rw [HU.out]; rfl
        have hpl2 := (putKey_length key val u).1
        have HP := Hid.mk' (impl_putKey g 0 n cp u key val _ hOA.sl hcs.1 (by omega) hpk.2.1 hpk.2.2)
        clear HU hpl hOA hO hB
        go_wp2_with (at_builtin; fail)
        refine HP.out.mono ?_
        rintro e w5 ⟨g5, n5, cp5, rfl, hO5, hb5⟩
        have hB5 : Below w.heap.size w w5 := hBA.trans (hb5.mono hBA.size)
        have hO5' := hO5.mono (base' := w.heap.size) hBA.size
        rw [← HU2.out] at hO5'
        have hn5 : n5 ≤ m.length + (k + 1) := by have := hO5.1; omega
        have HO5 := Hid.mk' hO5'
        clear hb5 hO5 hO5' hBA c0 c1 c2 HP
        go_wp2_with (at_builtin; fail)
        go_roundw
        case rel => exact ⟨k + 1, g5, n5, cp5, by omega, hn5, by go_num, rfl, HO5.out, hB5⟩
        case measure => simp [intOf]; omega
      · have hb1 : (z == 1) = false := beq_eq_false_iff_ne.2 hz
        by_cases hz2 : z = 2
        · subst hz2
          have HU2 : Hid (applyAll m (l.take (k + 1)) = delKey key u) := by show _ = _; rw [HU.out]; rfl
          have hpl2 : (delKey key u).length ≤ u.length := List.length_filter_le _ _
          have HP := Hid.mk' (impl_delKey g 0 n cp u key _ hOA.sl hcs.1 (by omega) hpk.2.1)
          clear HU hpl hz hOA hO hB
          go_wp2_with (at_builtin; fail)
          refine HP.out.mono ?_
          rintro e w5 ⟨g5, n5, cp5, rfl, hO5, hb5⟩
          have hB5 : Below w.heap.size w w5 := hBA.trans (hb5.mono hBA.size)
          have hO5' := hO5.mono (base' := w.heap.size) hBA.size
          rw [← HU2.out] at hO5'
          have hn5 : n5 ≤ m.length + (k + 1) := by have := hO5.1; omega
          have HO5 := Hid.mk' hO5'
          clear hb5 hO5 hO5' hBA c0 c1 c2 HP
          go_wp2_with (at_builtin; fail)
          go_roundw
          case rel => exact ⟨k + 1, g5, n5, cp5, by omega, hn5, by go_num, rfl, HO5.out, hB5⟩
          case measure => simp [intOf]; omega
        · have hb2 : (z == 2) = false := beq_eq_false_iff_ne.2 hz2
          have HU2 : Hid (applyAll m (l.take (k + 1)) = u) := by show _ = _; rw [HU.out]; unfold apply1; rw [if_neg hz, if_neg hz2]
          clear HU hpl hz hz2 hO hB
          go_wp2_with (at_builtin; fail)
          go_roundw
          case rel => exact ⟨k + 1, g, n, cp, by omega, by omega, by go_num, rfl, by rw [HU2.out]; exact hOA, hBA⟩
          case measure => simp [intOf]; omega
    · have HE : Hid (l.take k = l) := List.take_of_length_le (by omega)
      go_wp2_with (at_builtin; fail)
      go_ret
      rw [HE.out] at hO
      exact ⟨g, n, cp, rfl, hO, hB⟩

end Go.Proofs.Yteniflajiklffaa.ords
