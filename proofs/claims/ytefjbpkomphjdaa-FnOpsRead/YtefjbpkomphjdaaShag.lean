/- The program's statements: what a sign tells. The program's orders: what is right. -/
import Derived.Test.YtefjbpkomphjdaaShae
import Derived.Test.YtefjbpkomphjdaaShaf
import Derived.Laws.Runes
import Derived.Laws.StructEq
import Derived.Test.YtefjbpkomphjdaaShab
namespace Go.Proofs.Ytefjbpkomphjdaa.txts
open Go Go.RowKit Go.Proofs.Ytefjbpkomphjdaa.base Go.Proofs.Ytefjbpkomphjdaa.pairs Go.Proofs.Ytefjbpkomphjdaa.ords
set_option linter.unusedVariables false
set_option linter.unusedSimpArgs false

set_option maxHeartbeats 400000 in
theorem i_plainSign (c : Nat) (w : World) (hc : c ≤ 1114111) :
    Calls Try.prog 59 #[.int .i32 (c : Int)] w fun e w' => e = .returned (.bool (decide (c < 128) && keyCh c)) ∧ w' = w := by
  by_cases h1 : c < 128
  · have hi : (c : Int) < 128 := by omega
    have hw : IntKind.u8.wrap (c : Int) = (c : Int) := by rw [IntKind.wrap_u8]; omega
    have hl := i_keySign c w (by omega)
    rw [decide_eq_true h1]
    have HL := Hid.mk' hl
    clear hl
    generalize keyCh c = K at *
    cases K
    all_goals
      go_enter Try.func59, Try.ntmps59
      go_wp2_with fail
      refine HL.out.mono ?_
      rintro e w1 ⟨rfl, rfl⟩
      go_wp2_with fail
      go_ret
      exact ⟨rfl, rfl⟩
  · have hi : ¬ (c : Int) < 128 := by omega
    rw [decide_eq_false h1]
    go_enter Try.func59, Try.ntmps59
    go_wp2_with fail
    go_ret
    exact ⟨rfl, rfl⟩

def spellV : Option Od → Value
  | none => .iface 130 (.agg #[])
  | some o => .iface 59 (.agg #[.int .i64 o.1, .string o.2.1, .string o.2.2])
theorem rune_str (c : Nat) (hc : c < 128) (W : World) : (convert 21 9 (.int .i32 (c : Int))).run Try.prog W = .ok (.string ⟨#[UInt8.ofNat c]⟩) W := by
  rw [run_convert_int_string W 21 9 .i32 (c : Int) (by kernel_rfl) Try.underlying9]
  have hv : Utf8.valid (c : Int) = true := by unfold Utf8.valid; simp; omega
  unfold Utf8.encode
  rw [if_pos hv]
  simp only [Int.toNat_natCast]
  rw [if_pos (by omega)]

set_option maxRecDepth 100000 in
set_option maxHeartbeats 1000000 in
theorem i_longer (o : Od) (c : Nat) (w : World) (hc : keyCh c = true) (h1 : o.2.1.size ≤ 12) (h2 : o.2.2.size ≤ 20) :
    Calls Try.prog 101 #[.agg #[.int .i64 o.1, .string o.2.1, .string o.2.2], .int .i32 (c : Int)] w fun e w' =>
      e = .returned (spellV (if o.1 = 1 ∨ o.1 = 3 then (if o.2.2.size = 20 then none else some (o.1, o.2.1, ⟨(o.2.2.data.toList ++ [UInt8.ofNat c]).toArray⟩)) else (if o.2.1.size = 12 then none else some (o.1, ⟨(o.2.1.data.toList ++ [UInt8.ofNat c]).toArray⟩, o.2.2)))) ∧ Below w.heap.size w w' := by
  have hc128 : c < 128 := by
    unfold keyCh at hc; simp at hc; omega
  have HR := rune_str c hc128
  obtain ⟨z, key, val⟩ := o
  simp only [] at h1 h2 ⊢
  have hb := fun (k v : ByteArray) => (Below.refl w.heap.size w).alloc (Nat.le_refl _) (.cells #[.int .i64 z, .string k, .string v] 59)
  by_cases hz : z = 1 ∨ z = 3
  · rw [if_pos hz]
    by_cases h20 : val.size = 20
    · rw [if_pos h20]
      have h20i : (val.size : Int) = 20 := by omega
      have h20b : ((val.size : Int) == 20) = true := by rw [h20i]; rfl
      rcases hz with rfl | rfl
      all_goals
        go_enter Try.func101, Try.ntmps101
        go_wp2_with fail
        go_ret
        exact ⟨rfl, hb _ _⟩
    · rw [if_neg h20]
      have h20i : ¬ (val.size : Int) = 20 := by omega
      have h20b : ((val.size : Int) == 20) = false := by rw [beq_eq_false_iff_ne]; omega
      obtain ⟨u, hu⟩ : ∃ u, u = val ++ (⟨#[UInt8.ofNat c]⟩ : ByteArray) := ⟨_, rfl⟩
      have hue : (⟨(val.data.toList ++ [UInt8.ofNat c]).toArray⟩ : ByteArray) = u := by
        apply bytes_ext; rw [hu]; simp
      rw [hue]
      have ha : ∀ W, (Op.stringOp .add val ⟨#[UInt8.ofNat c]⟩).run Try.prog W = .ok (.string u) W := fun W => by
        rw [hu]; exact run_string_add_sum W val ⟨#[UInt8.ofNat c]⟩ (by show val.size + 1 ≤ _; omega)
      clear hu hue
      rcases hz with rfl | rfl
      all_goals
        go_enter Try.func101, Try.ntmps101
        go_wp2_with fail
        go_ret
        exact ⟨rfl, hb _ _⟩
  · rw [if_neg hz]
    have hz1 : ¬ z = 1 := fun e => hz (.inl e)
    have hz3 : ¬ z = 3 := fun e => hz (.inr e)
    have hz1b : (z == 1) = false := beq_eq_false_iff_ne.2 hz1
    have hz3b : (z == 3) = false := beq_eq_false_iff_ne.2 hz3
    by_cases h12 : key.size = 12
    · rw [if_pos h12]
      have h20i : (key.size : Int) = 12 := by omega
      have h20b : ((key.size : Int) == 12) = true := by rw [h20i]; rfl
      go_enter Try.func101, Try.ntmps101
      go_wp2_with fail
      go_ret
      exact ⟨rfl, hb _ _⟩
    · rw [if_neg h12]
      have h20i : ¬ (key.size : Int) = 12 := by omega
      have h20b : ((key.size : Int) == 12) = false := by rw [beq_eq_false_iff_ne]; omega
      obtain ⟨u, hu⟩ : ∃ u, u = key ++ (⟨#[UInt8.ofNat c]⟩ : ByteArray) := ⟨_, rfl⟩
      have hue : (⟨(key.data.toList ++ [UInt8.ofNat c]).toArray⟩ : ByteArray) = u := by
        apply bytes_ext; rw [hu]; simp
      rw [hue]
      have ha : ∀ W, (Op.stringOp .add key ⟨#[UInt8.ofNat c]⟩).run Try.prog W = .ok (.string u) W := fun W => by
        rw [hu]; exact run_string_add_sum W key ⟨#[UInt8.ofNat c]⟩ (by show key.size + 1 ≤ _; omega)
      clear hu hue
      go_enter Try.func101, Try.ntmps101
      go_wp2_with fail
      go_ret
      exact ⟨rfl, hb _ _⟩

set_option maxRecDepth 100000 in
set_option maxHeartbeats 1000000 in
theorem i_withNone (c : Nat) (w : World) :
    Calls Try.prog 107 #[.agg #[], .int .i32 (c : Int)] w fun e w' => e = .returned (spellV none) ∧ Below w.heap.size w w' := by
  have hb := (Below.refl w.heap.size w).alloc (Nat.le_refl _) (.cells #[] 130)
  go_enter Try.func107, Try.ntmps107
  go_wp2_with fail
  go_ret
  exact ⟨rfl, hb⟩

/-! ### a sign -/
def stepR (o : Od) (c : Nat) : Option Od := if c < 128 then step (some o) (UInt8.ofNat c) else none
theorem eq_spelled (a a' : Int) (b b' c c' : ByteArray) (w : World) : (Op.equalIn 10000 59 (.agg #[.int .i64 a, .string b, .string c]) (.agg #[.int .i64 a', .string b', .string c'])).run Try.prog w = .ok (a == a' && (b.toList == b'.toList && c.toList == c'.toList)) w := by
  have u3 := Try.underlying3
  have u9 := Try.underlying9
  have a3 := Try.isAgg3
  have z3 := Try.sizeOf3
  have a9 := Try.isAgg9
  have z9 := Try.sizeOf9
  have hS : Try.prog.underlying 59 = some (.struct (Try.prog.fieldsOf 59)) := by kernel_rfl
  have hp : Try.prog.stoodInHeld 59 = false := by kernel_rfl
  rw [show (10000 : Nat) = 9999 + 1 from rfl, run_equalIn_agg w 9999 59 _ _ hS hp]
  simp only [Program.fieldsOf, Try.underlying59]
  go_simp
  by_cases h1 : a = a' <;> by_cases h2 : b.toList = b'.toList <;> by_cases h3 : c.toList = c'.toList <;> simp [h1, h2, h3]
theorem spelled_is (o : Od) (w : World) : (Op.equalIn 10000 59 (.agg #[.int .i64 o.1, .string o.2.1, .string o.2.2]) (.agg #[.int .i64 0, .string ⟨#[]⟩, .string ⟨#[]⟩])).run Try.prog w = .ok (decide (o = init)) w := by
  rw [eq_spelled]
  congr 1
  obtain ⟨a, b, c⟩ := o
  by_cases h1 : a = 0
  · by_cases h2 : b = ⟨#[]⟩
    · by_cases h3 : c = ⟨#[]⟩
      · subst h1 h2 h3; simp [init]
      · rw [decide_eq_false (by simp [h3])]
        have : (c.toList == (⟨#[]⟩ : ByteArray).toList) = false := by
          rw [beq_eq_false_iff_ne]; intro e; exact h3 (bytes_ext (by rw [← ByteArray.toList_eq, ← ByteArray.toList_eq]; exact e))
        rw [this]; simp
    · rw [decide_eq_false (by simp [h2])]
      have : (b.toList == (⟨#[]⟩ : ByteArray).toList) = false := by
        rw [beq_eq_false_iff_ne]; intro e; exact h2 (bytes_ext (by rw [← ByteArray.toList_eq, ← ByteArray.toList_eq]; exact e))
      rw [this]; simp
  · rw [decide_eq_false (by simp [h1]), beq_eq_false_iff_ne.2 h1]; rfl
theorem guard_spelled : Try.prog.eqGuardType Try.prog.depth 59 = false := by kernel_rfl
theorem ofNat_c (c d : Nat) (hc : c < 128) (hd : d < 128) : (UInt8.ofNat c = UInt8.ofNat d) ↔ c = d := by
  constructor
  · intro e
    have := congrArg UInt8.toNat e
    simp at this
    omega
  · rintro rfl; rfl
theorem key_ofNat (c : Nat) (hc : c < 128) : keyCh (UInt8.ofNat c).toNat = keyCh c := by
  congr 1; simp; omega

theorem stepR_key (o : Od) (c : Nat) (hp : (decide (c < 128) && keyCh c) = true) (h45 : ¬ c = 45) (h61 : ¬ c = 61) (h63 : ¬ c = 63) :
    stepR o c = if o.1 = 1 ∨ o.1 = 3 then (if o.2.2.size = 20 then none else some (o.1, o.2.1, ⟨(o.2.2.data.toList ++ [UInt8.ofNat c]).toArray⟩)) else (if o.2.1.size = 12 then none else some (o.1, ⟨(o.2.1.data.toList ++ [UInt8.ofNat c]).toArray⟩, o.2.2)) := by
  have hl : c < 128 := by simp at hp; exact hp.1
  have hkc : keyCh (UInt8.ofNat c).toNat = true := by rw [key_ofNat c hl]; simp at hp; exact hp.2
  unfold stepR
  rw [if_pos hl]
  simp only [step]
  rw [if_neg (fun e => h45 ((ofNat_c c 45 hl (by decide)).1 e.1)), if_neg (fun e => h61 ((ofNat_c c 61 hl (by decide)).1 e.1)), if_neg (fun e => h63 ((ofNat_c c 63 hl (by decide)).1 e.1)), if_pos hkc]
theorem stepR_no (o : Od) (c : Nat) (hp : (decide (c < 128) && keyCh c) = false) (h45 : ¬ (c = 45 ∧ o = init)) (h61 : ¬ (c = 61 ∧ o.1 = 0)) (h63 : ¬ (c = 63 ∧ o.1 = 0)) : stepR o c = none := by
  unfold stepR
  by_cases hl : c < 128
  · rw [if_pos hl]
    have hkc : ¬ keyCh (UInt8.ofNat c).toNat = true := by rw [key_ofNat c hl]; rw [decide_eq_true hl] at hp; simpa using hp
    simp only [step]
    rw [if_neg (fun e => h45 ⟨(ofNat_c c 45 hl (by decide)).1 e.1, e.2⟩), if_neg (fun e => h61 ⟨(ofNat_c c 61 hl (by decide)).1 e.1, e.2⟩), if_neg (fun e => h63 ⟨(ofNat_c c 63 hl (by decide)).1 e.1, e.2⟩), if_neg hkc]
  · rw [if_neg hl]
theorem stepR_put (o : Od) (h : o.1 = 0) : stepR o 61 = some (1, o.2.1, ⟨#[]⟩) := by
  unfold stepR
  rw [if_pos (by decide)]
  simp only [step]
  rw [if_neg (fun e => absurd e.1 (by decide)), if_pos ⟨by decide, h⟩]
theorem stepR_need (o : Od) (h : o.1 = 0) : stepR o 63 = some (3, o.2.1, ⟨#[]⟩) := by
  unfold stepR
  rw [if_pos (by decide)]
  simp only [step]
  rw [if_neg (fun e => absurd e.1 (by decide)), if_neg (fun e => absurd e.1 (by decide)), if_pos ⟨by decide, h⟩]
theorem stepR_del : stepR init 45 = some (2, ⟨#[]⟩, ⟨#[]⟩) := rfl

set_option maxRecDepth 100000 in
set_option maxHeartbeats 4000000 in
theorem i_withI (c : Nat) (w : World) (hc : c ≤ 1114111) (h1 : (⟨#[]⟩ : ByteArray).size ≤ 12) (h2 : (⟨#[]⟩ : ByteArray).size ≤ 20) :
    Calls Try.prog 102 #[.agg #[.int .i64 0, .string (⟨#[]⟩ : ByteArray), .string (⟨#[]⟩ : ByteArray)], .int .i32 (c : Int)] w fun e w' => e = .returned (spellV (stepR (0, (⟨#[]⟩ : ByteArray), (⟨#[]⟩ : ByteArray)) c)) ∧ Below w.heap.size w w' := by
  have hb : Below w.heap.size w (w.alloc (.cells #[.int .i64 0, .string (⟨#[]⟩ : ByteArray), .string (⟨#[]⟩ : ByteArray)] 59)) := (Below.refl w.heap.size w).alloc (Nat.le_refl _) _
  have HQ : ∀ W, (Op.equalIn 10000 59 (.agg #[.int .i64 0, .string (⟨#[]⟩ : ByteArray), .string (⟨#[]⟩ : ByteArray)]) (.agg #[.int .i64 0, .string ⟨#[]⟩, .string ⟨#[]⟩])).run Try.prog W = .ok true W := fun W => by have := spelled_is (0, (⟨#[]⟩ : ByteArray), (⟨#[]⟩ : ByteArray)) W; simpa [init] using this
  have hg := guard_spelled
  have HPS := fun W => i_plainSign c W hc
  have HNI : Hid (True) := trivial
  by_cases hcz : c = 45
  · subst hcz
    have b45 : (((45 : Nat) : Int) == 45) = true := rfl
    have b61 : (((45 : Nat) : Int) == 61) = false := rfl
    have b63 : (((45 : Nat) : Int) == 63) = false := rfl
    have HR := Hid.mk' stepR_del
    clear HPS
    go_enter Try.func102, Try.ntmps102
    go_wp2_with fail
    go_ret
    exact ⟨by rw [HR.out]; rfl, hb⟩
  · have h45 := hcz
    clear hcz
    by_cases hcz : c = 61
    · subst hcz
      have b45 : (((61 : Nat) : Int) == 45) = false := rfl
      have b61 : (((61 : Nat) : Int) == 61) = true := rfl
      have b63 : (((61 : Nat) : Int) == 63) = false := rfl
      have HR := Hid.mk' (stepR_put (0, (⟨#[]⟩ : ByteArray), (⟨#[]⟩ : ByteArray)) rfl)
      clear HPS
      go_enter Try.func102, Try.ntmps102
      go_wp2_with fail
      go_ret
      exact ⟨by rw [HR.out]; rfl, hb⟩
    · have h61 := hcz
      clear hcz
      by_cases hcz : c = 63
      · subst hcz
        have b45 : (((63 : Nat) : Int) == 45) = false := rfl
        have b61 : (((63 : Nat) : Int) == 61) = false := rfl
        have b63 : (((63 : Nat) : Int) == 63) = true := rfl
        have HR := Hid.mk' (stepR_need (0, (⟨#[]⟩ : ByteArray), (⟨#[]⟩ : ByteArray)) rfl)
        clear HPS
        go_enter Try.func102, Try.ntmps102
        go_wp2_with fail
        go_ret
        exact ⟨by rw [HR.out]; rfl, hb⟩
      · have h63 := hcz
        clear hcz
        have b45 : ((c : Int) == 45) = false := by rw [beq_eq_false_iff_ne]; omega
        have b61 : ((c : Int) == 61) = false := by rw [beq_eq_false_iff_ne]; omega
        have b63 : ((c : Int) == 63) = false := by rw [beq_eq_false_iff_ne]; omega
        cases hp : (decide (c < 128) && keyCh c)
        · have HR := Hid.mk' (stepR_no (0, (⟨#[]⟩ : ByteArray), (⟨#[]⟩ : ByteArray)) c hp (fun e => h45 e.1) (fun e => h61 e.1) (fun e => h63 e.1))
          rw [hp] at HPS
          have HPS := Hid.mk' HPS
          clear HNI hp
          go_enter Try.func102, Try.ntmps102
          go_wp2_with fail
          refine (HPS.out _).mono ?_
          rintro e w1 ⟨rfl, rfl⟩
          go_wp2_with fail
          go_ret
          exact ⟨by rw [HR.out]; rfl, hb⟩
        · have HLG : ∀ W, Calls Try.prog 101 #[.agg #[.int .i64 0, .string (⟨#[]⟩ : ByteArray), .string (⟨#[]⟩ : ByteArray)], .int .i32 (c : Int)] W fun e w' => e = .returned (spellV (stepR (0, (⟨#[]⟩ : ByteArray), (⟨#[]⟩ : ByteArray)) c)) ∧ Below W.heap.size W w' := fun W => by rw [stepR_key (0, (⟨#[]⟩ : ByteArray), (⟨#[]⟩ : ByteArray)) c hp h45 h61 h63]; exact i_longer (0, (⟨#[]⟩ : ByteArray), (⟨#[]⟩ : ByteArray)) c W (by simp at hp; exact hp.2) h1 h2
          generalize stepR (0, (⟨#[]⟩ : ByteArray), (⟨#[]⟩ : ByteArray)) c = R at *
          have HLG := Hid.mk' HLG
          rw [hp] at HPS
          have HPS := Hid.mk' HPS
          clear HNI hp
          go_enter Try.func102, Try.ntmps102
          go_wp2_with fail
          refine (HPS.out _).mono ?_
          rintro e w1 ⟨rfl, rfl⟩
          go_wp2_with fail
          refine (HLG.out _).mono ?_
          rintro e w2 ⟨rfl, hb2⟩
          go_wp2_with fail
          go_ret
          exact ⟨rfl, hb.trans (hb2.mono hb.size)⟩
set_option maxRecDepth 100000 in
set_option maxHeartbeats 4000000 in
theorem i_withZ (key val : ByteArray) (c : Nat) (w : World) (hc : c ≤ 1114111) (hni : ¬ ((0, key, val) : Od) = init) (h1 : key.size ≤ 12) (h2 : val.size ≤ 20) :
    Calls Try.prog 102 #[.agg #[.int .i64 0, .string key, .string val], .int .i32 (c : Int)] w fun e w' => e = .returned (spellV (stepR (0, key, val) c)) ∧ Below w.heap.size w w' := by
  have hb : Below w.heap.size w (w.alloc (.cells #[.int .i64 0, .string key, .string val] 59)) := (Below.refl w.heap.size w).alloc (Nat.le_refl _) _
  have HQ : ∀ W, (Op.equalIn 10000 59 (.agg #[.int .i64 0, .string key, .string val]) (.agg #[.int .i64 0, .string ⟨#[]⟩, .string ⟨#[]⟩])).run Try.prog W = .ok false W := fun W => by have := spelled_is (0, key, val) W; simpa [hni, -Prod.mk.injEq, -ByteArray.mk.injEq] using this
  have hg := guard_spelled
  have HPS := fun W => i_plainSign c W hc
  have HNI : Hid (¬ ((0, key, val) : Od) = init) := hni
  by_cases hcz : c = 45
  · subst hcz
    have b45 : (((45 : Nat) : Int) == 45) = true := rfl
    have b61 : (((45 : Nat) : Int) == 61) = false := rfl
    have b63 : (((45 : Nat) : Int) == 63) = false := rfl
    have HR := Hid.mk' (stepR_no (0, key, val) 45 (by decide) (fun e => by first | exact HNI.out e.2 | exact absurd e.1 (by decide)) (fun e => by first | exact absurd e.1 (by decide) | exact hk e.2) (fun e => by first | exact absurd e.1 (by decide) | exact hk e.2))
    have HPS : Hid (∀ W, Calls Try.prog 59 #[.int .i32 45] W fun e w' => e = .returned (.bool false) ∧ w' = W) := HPS
    clear HNI
    go_enter Try.func102, Try.ntmps102
    go_wp2_with fail
    refine (HPS.out _).mono ?_
    rintro e w1 ⟨rfl, rfl⟩
    go_wp2_with fail
    go_ret
    exact ⟨by rw [HR.out]; rfl, hb⟩
  · have h45 := hcz
    clear hcz
    by_cases hcz : c = 61
    · subst hcz
      have b45 : (((61 : Nat) : Int) == 45) = false := rfl
      have b61 : (((61 : Nat) : Int) == 61) = true := rfl
      have b63 : (((61 : Nat) : Int) == 63) = false := rfl
      have HR := Hid.mk' (stepR_put (0, key, val) rfl)
      clear HPS
      go_enter Try.func102, Try.ntmps102
      go_wp2_with fail
      go_ret
      exact ⟨by rw [HR.out]; rfl, hb⟩
    · have h61 := hcz
      clear hcz
      by_cases hcz : c = 63
      · subst hcz
        have b45 : (((63 : Nat) : Int) == 45) = false := rfl
        have b61 : (((63 : Nat) : Int) == 61) = false := rfl
        have b63 : (((63 : Nat) : Int) == 63) = true := rfl
        have HR := Hid.mk' (stepR_need (0, key, val) rfl)
        clear HPS
        go_enter Try.func102, Try.ntmps102
        go_wp2_with fail
        go_ret
        exact ⟨by rw [HR.out]; rfl, hb⟩
      · have h63 := hcz
        clear hcz
        have b45 : ((c : Int) == 45) = false := by rw [beq_eq_false_iff_ne]; omega
        have b61 : ((c : Int) == 61) = false := by rw [beq_eq_false_iff_ne]; omega
        have b63 : ((c : Int) == 63) = false := by rw [beq_eq_false_iff_ne]; omega
        cases hp : (decide (c < 128) && keyCh c)
        · have HR := Hid.mk' (stepR_no (0, key, val) c hp (fun e => h45 e.1) (fun e => h61 e.1) (fun e => h63 e.1))
          rw [hp] at HPS
          have HPS := Hid.mk' HPS
          clear HNI hp
          go_enter Try.func102, Try.ntmps102
          go_wp2_with fail
          refine (HPS.out _).mono ?_
          rintro e w1 ⟨rfl, rfl⟩
          go_wp2_with fail
          go_ret
          exact ⟨by rw [HR.out]; rfl, hb⟩
        · have HLG : ∀ W, Calls Try.prog 101 #[.agg #[.int .i64 0, .string key, .string val], .int .i32 (c : Int)] W fun e w' => e = .returned (spellV (stepR (0, key, val) c)) ∧ Below W.heap.size W w' := fun W => by rw [stepR_key (0, key, val) c hp h45 h61 h63]; exact i_longer (0, key, val) c W (by simp at hp; exact hp.2) h1 h2
          generalize stepR (0, key, val) c = R at *
          have HLG := Hid.mk' HLG
          rw [hp] at HPS
          have HPS := Hid.mk' HPS
          clear HNI hp
          go_enter Try.func102, Try.ntmps102
          go_wp2_with fail
          refine (HPS.out _).mono ?_
          rintro e w1 ⟨rfl, rfl⟩
          go_wp2_with fail
          refine (HLG.out _).mono ?_
          rintro e w2 ⟨rfl, hb2⟩
          go_wp2_with fail
          go_ret
          exact ⟨rfl, hb.trans (hb2.mono hb.size)⟩
set_option maxRecDepth 100000 in
set_option maxHeartbeats 4000000 in
theorem i_withK (z : Int) (key val : ByteArray) (c : Nat) (w : World) (hc : c ≤ 1114111) (hk : ¬ z = 0) (h1 : key.size ≤ 12) (h2 : val.size ≤ 20) :
    Calls Try.prog 102 #[.agg #[.int .i64 z, .string key, .string val], .int .i32 (c : Int)] w fun e w' => e = .returned (spellV (stepR (z, key, val) c)) ∧ Below w.heap.size w w' := by
  have hb : Below w.heap.size w (w.alloc (.cells #[.int .i64 z, .string key, .string val] 59)) := (Below.refl w.heap.size w).alloc (Nat.le_refl _) _
  have HQ : ∀ W, (Op.equalIn 10000 59 (.agg #[.int .i64 z, .string key, .string val]) (.agg #[.int .i64 0, .string ⟨#[]⟩, .string ⟨#[]⟩])).run Try.prog W = .ok false W := fun W => by have := spelled_is (z, key, val) W; simpa [init, hk] using this
  have hg := guard_spelled
  have HPS := fun W => i_plainSign c W hc
  have HNI : Hid (¬ ((z, key, val) : Od) = init) := fun e => hk (congrArg (fun o : Od => o.1) e)
  have hkb : (z == 0) = false := beq_eq_false_iff_ne.2 hk
  by_cases hcz : c = 45
  · subst hcz
    have b45 : (((45 : Nat) : Int) == 45) = true := rfl
    have b61 : (((45 : Nat) : Int) == 61) = false := rfl
    have b63 : (((45 : Nat) : Int) == 63) = false := rfl
    have HR := Hid.mk' (stepR_no (z, key, val) 45 (by decide) (fun e => by first | exact HNI.out e.2 | exact absurd e.1 (by decide)) (fun e => by first | exact absurd e.1 (by decide) | exact hk e.2) (fun e => by first | exact absurd e.1 (by decide) | exact hk e.2))
    have HPS : Hid (∀ W, Calls Try.prog 59 #[.int .i32 45] W fun e w' => e = .returned (.bool false) ∧ w' = W) := HPS
    clear HNI
    go_enter Try.func102, Try.ntmps102
    go_wp2_with fail
    refine (HPS.out _).mono ?_
    rintro e w1 ⟨rfl, rfl⟩
    go_wp2_with fail
    go_ret
    exact ⟨by rw [HR.out]; rfl, hb⟩
  · have h45 := hcz
    clear hcz
    by_cases hcz : c = 61
    · subst hcz
      have b45 : (((61 : Nat) : Int) == 45) = false := rfl
      have b61 : (((61 : Nat) : Int) == 61) = true := rfl
      have b63 : (((61 : Nat) : Int) == 63) = false := rfl
      have HR := Hid.mk' (stepR_no (z, key, val) 61 (by decide) (fun e => by first | exact HNI.out e.2 | exact absurd e.1 (by decide)) (fun e => by first | exact absurd e.1 (by decide) | exact hk e.2) (fun e => by first | exact absurd e.1 (by decide) | exact hk e.2))
      have HPS : Hid (∀ W, Calls Try.prog 59 #[.int .i32 61] W fun e w' => e = .returned (.bool false) ∧ w' = W) := HPS
      clear HNI
      go_enter Try.func102, Try.ntmps102
      go_wp2_with fail
      refine (HPS.out _).mono ?_
      rintro e w1 ⟨rfl, rfl⟩
      go_wp2_with fail
      go_ret
      exact ⟨by rw [HR.out]; rfl, hb⟩
    · have h61 := hcz
      clear hcz
      by_cases hcz : c = 63
      · subst hcz
        have b45 : (((63 : Nat) : Int) == 45) = false := rfl
        have b61 : (((63 : Nat) : Int) == 61) = false := rfl
        have b63 : (((63 : Nat) : Int) == 63) = true := rfl
        have HR := Hid.mk' (stepR_no (z, key, val) 63 (by decide) (fun e => by first | exact HNI.out e.2 | exact absurd e.1 (by decide)) (fun e => by first | exact absurd e.1 (by decide) | exact hk e.2) (fun e => by first | exact absurd e.1 (by decide) | exact hk e.2))
        have HPS : Hid (∀ W, Calls Try.prog 59 #[.int .i32 63] W fun e w' => e = .returned (.bool false) ∧ w' = W) := HPS
        clear HNI
        go_enter Try.func102, Try.ntmps102
        go_wp2_with fail
        refine (HPS.out _).mono ?_
        rintro e w1 ⟨rfl, rfl⟩
        go_wp2_with fail
        go_ret
        exact ⟨by rw [HR.out]; rfl, hb⟩
      · have h63 := hcz
        clear hcz
        have b45 : ((c : Int) == 45) = false := by rw [beq_eq_false_iff_ne]; omega
        have b61 : ((c : Int) == 61) = false := by rw [beq_eq_false_iff_ne]; omega
        have b63 : ((c : Int) == 63) = false := by rw [beq_eq_false_iff_ne]; omega
        cases hp : (decide (c < 128) && keyCh c)
        · have HR := Hid.mk' (stepR_no (z, key, val) c hp (fun e => h45 e.1) (fun e => h61 e.1) (fun e => h63 e.1))
          rw [hp] at HPS
          have HPS := Hid.mk' HPS
          clear HNI hp
          go_enter Try.func102, Try.ntmps102
          go_wp2_with fail
          refine (HPS.out _).mono ?_
          rintro e w1 ⟨rfl, rfl⟩
          go_wp2_with fail
          go_ret
          exact ⟨by rw [HR.out]; rfl, hb⟩
        · have HLG : ∀ W, Calls Try.prog 101 #[.agg #[.int .i64 z, .string key, .string val], .int .i32 (c : Int)] W fun e w' => e = .returned (spellV (stepR (z, key, val) c)) ∧ Below W.heap.size W w' := fun W => by rw [stepR_key (z, key, val) c hp h45 h61 h63]; exact i_longer (z, key, val) c W (by simp at hp; exact hp.2) h1 h2
          generalize stepR (z, key, val) c = R at *
          have HLG := Hid.mk' HLG
          rw [hp] at HPS
          have HPS := Hid.mk' HPS
          clear HNI hp
          go_enter Try.func102, Try.ntmps102
          go_wp2_with fail
          refine (HPS.out _).mono ?_
          rintro e w1 ⟨rfl, rfl⟩
          go_wp2_with fail
          refine (HLG.out _).mono ?_
          rintro e w2 ⟨rfl, hb2⟩
          go_wp2_with fail
          go_ret
          exact ⟨rfl, hb.trans (hb2.mono hb.size)⟩
theorem i_with (o : Od) (c : Nat) (w : World) (hc : c ≤ 1114111) (h1 : o.2.1.size ≤ 12) (h2 : o.2.2.size ≤ 20) :
    Calls Try.prog 102 #[.agg #[.int .i64 o.1, .string o.2.1, .string o.2.2], .int .i32 (c : Int)] w fun e w' => e = .returned (spellV (stepR o c)) ∧ Below w.heap.size w w' := by
  obtain ⟨z, key, val⟩ := o
  by_cases hk : z = 0
  · subst hk
    by_cases hi : ((0, key, val) : Od) = init
    · cases hi
      exact i_withI c w hc h1 h2
    · exact i_withZ key val c w hc hi h1 h2
  · exact i_withK z key val c w hc hk h1 h2

end Go.Proofs.Ytefjbpkomphjdaa.txts

namespace Go.Proofs.Ytefjbpkomphjdaa.ords
open Go Go.RowKit Go.Proofs.Ytefjbpkomphjdaa.base Go.Proofs.Ytefjbpkomphjdaa.pairs
set_option linter.unusedVariables false
set_option linter.unusedSimpArgs false

/-! ### orders that rise -/
def riseOB : List Od → Bool
  | [] => true
  | p :: l => (match l.head? with | none => true | some q => ltB p.2.1 q.2.1) && riseOB l
theorem opsFrom_some (k : ByteArray) (l : List Od) : opsFrom (some k) l = ((match l.head? with | none => true | some q => ltB k q.2.1) && l.all odOk && riseOB l) := by
  induction l generalizing k with
  | nil => rfl
  | cons p l ih =>
    simp only [opsFrom, ih, List.head?_cons, List.all_cons, riseOB]
    cases odOk p <;> cases ltB k p.2.1 <;> cases l.all odOk <;> cases riseOB l <;> simp
theorem opsFrom_split (l : List Od) : opsFrom none l = (l.all odOk && riseOB l) := by
  cases l with
  | nil => rfl
  | cons p l =>
    simp only [opsFrom, opsFrom_some, List.all_cons, riseOB]
    cases odOk p <;> cases l.all odOk <;> cases riseOB l <;> simp
theorem riseOB_step (l : List Od) (j : Nat) (h1 : 1 ≤ j) (h : j < l.length) : riseOB (l.drop (j - 1)) = (ltB l[j - 1].2.1 l[j].2.1 && riseOB (l.drop j)) := by
  rw [List.drop_eq_getElem_cons (by omega : j - 1 < l.length), riseOB, show j - 1 + 1 = j by omega, List.head?_drop, List.getElem?_eq_getElem h]
theorem riseOB_end (l : List Od) (j : Nat) (h : l.length ≤ j) : riseOB (l.drop (j - 1)) = true := by
  by_cases h2 : j - 1 < l.length
  · rw [List.drop_eq_getElem_cons h2, riseOB, List.drop_eq_nil_of_le (by omega)]; rfl
  · rw [List.drop_eq_nil_of_le (by omega)]; rfl
theorem all_dropO (l : List Od) (k : Nat) (h : k < l.length) : (l.drop k).all odOk = (odOk l[k] && (l.drop (k + 1)).all odOk) := by
  rw [List.drop_eq_getElem_cons h, List.all_cons]

set_option maxHeartbeats 400000 in
theorem i_keyO (p : Od) (w : World) :
    Calls Try.prog 100 #[.agg #[.int .i64 p.1, .string p.2.1, .string p.2.2]] w fun e w' => e = .returned (.string p.2.1) ∧ w' = w.alloc (.cells #[.int .i64 p.1, .string p.2.1, .string p.2.2] 53) := by
  go_enter Try.func100, Try.ntmps100
  go_wp2
  go_ret
  exact ⟨rfl, rfl⟩
theorem i_methO (z : Int) (x y : ByteArray) (w : World) : (method 235 53 (.agg #[.int .i64 z, .string x, .string y]) "loop.example/g00244/impl.key").run Try.prog w = .ok (100, .agg #[.int .i64 z, .string x, .string y]) w := by kernel_rfl

set_option maxRecDepth 100000 in
set_option maxHeartbeats 1000000 in
theorem i_opOk (o : Od) (w : World) (ho : smallO o) (hs : o.2.1.size ≤ 1099511627776) :
    Calls Try.prog 42 #[.agg #[.int .i64 o.1, .string o.2.1, .string o.2.2]] w fun e w' => e = .returned (.bool (odOk o)) ∧ Below w.heap.size w w' := by
  obtain ⟨z, k, v⟩ := o
  have h2 := ho.2
  simp only [] at h2 hs ⊢
  have hba : Below w.heap.size w (w.alloc (.cells #[.int .i64 z, .string k, .string v] 53)) := (Below.refl _ _).alloc (Nat.le_refl _) _
  have HK := Hid.mk' (impl_keyOk k (w.alloc (.cells #[.int .i64 z, .string k, .string v] 53)) hs)
  have HP := Hid.mk' (impl_pairOk (k, v) (w.alloc (.cells #[.int .i64 z, .string k, .string v] 53)) h2 hs)
  by_cases hz1 : z = 1
  · subst hz1
    have HR : Hid (odOk (1, k, v) = pairOk (k, v)) := by show _ = _; unfold odOk pairOk; simp
    generalize pairOk (k, v) = K at *
    clear HK ho h2 hs
    go_enter Try.func42, Try.ntmps42
    go_wp2_with fail
    refine HP.out.mono ?_
    rintro e w1 ⟨rfl, hb1⟩
    go_wp2_with fail
    go_ret
    exact ⟨ret_bool HR.out.symm, hba.trans (hb1.mono hba.size)⟩
  by_cases hz3 : z = 3
  · subst hz3
    have HR : Hid (odOk (3, k, v) = pairOk (k, v)) := by show _ = _; unfold odOk pairOk; simp
    generalize pairOk (k, v) = K at *
    clear HK ho h2 hs
    go_enter Try.func42, Try.ntmps42
    go_wp2_with fail
    refine HP.out.mono ?_
    rintro e w1 ⟨rfl, hb1⟩
    go_wp2_with fail
    go_ret
    exact ⟨ret_bool HR.out.symm, hba.trans (hb1.mono hba.size)⟩
  have hb1 : (z == 1) = false := beq_eq_false_iff_ne.2 hz1
  have hb3 : (z == 3) = false := beq_eq_false_iff_ne.2 hz3
  by_cases hz2 : z = 2
  · subst hz2
    clear HP hz1 hz3 ho h2 hs hb1 hb3
    by_cases hv : v.size = 0
    · have HR : Hid (odOk (2, k, v) = keyOk k) := by show _ = _; unfold odOk; simp [hv]
      obtain rfl := size_empty hv
      clear hv
      generalize keyOk k = K at *
      cases K
      all_goals
        go_enter Try.func42, Try.ntmps42
        go_wp2_with fail
        refine HK.out.mono ?_
        rintro e w1 ⟨rfl, hb1⟩
        have hc := bcell hb1
        go_wp2_with fail
        go_ret
        exact ⟨ret_bool HR.out.symm, hba.trans (hb1.mono hba.size)⟩
    · have HR : Hid (odOk (2, k, v) = false) := by show _ = _; unfold odOk; simp [hv]
      obtain ⟨hq, hq2⟩ := not_empty hv
      clear hv
      generalize keyOk k = K at *
      cases K
      all_goals
        go_enter Try.func42, Try.ntmps42
        go_wp2_with fail
        refine HK.out.mono ?_
        rintro e w1 ⟨rfl, hb1⟩
        have hc := bcell hb1
        go_wp2_with fail
        go_ret
        exact ⟨ret_bool HR.out.symm, hba.trans (hb1.mono hba.size)⟩
  · have hb2 : (z == 2) = false := beq_eq_false_iff_ne.2 hz2
    have HR : Hid (odOk (z, k, v) = false) := by
      show _ = _
      unfold odOk
      rw [decide_eq_false (by simp only []; omega)]; rfl
    clear HP HK hz1 hz2 hz3 ho h2 hs
    go_enter Try.func42, Try.ntmps42
    go_wp2_with fail
    go_ret
    exact ⟨ret_bool HR.out.symm, hba⟩

set_option maxRecDepth 100000 in
set_option maxHeartbeats 2000000 in
theorem i_risesO (b off cap : Nat) (l : List Od) (w : World) (h : SlO w (some ⟨b, off, none⟩) l.length l) (hsz : l.length ≤ 1099511627776) :
    Calls Try.prog 43 #[.slice (some ⟨b, off, none⟩) l.length cap] w fun e w' => e = .returned (.bool (riseOB l)) ∧ Below w.heap.size w w' := by
  have hmt := i_methO
  generalize hR : riseOB l = R
  have HR := Hid.mk' hR
  clear hR
  go_enter Try.func43, Try.ntmps43
  go_wp2_with fail
  go_loopw [3] (fun i wr => ∃ j : Nat, 1 ≤ j ∧ j ≤ l.length + 1 ∧ i = .int .i64 (j : Int) ∧ riseOB (l.drop (j - 1)) = R ∧ Below w.heap.size w wr) (fun i _ => l.length + 1 - (intOf i).toNat)
  case atStart => exact ⟨1, Nat.le_refl _, by omega, rfl, HR.out, Below.refl _ _⟩
  case round =>
    obtain ⟨j, hj1, hj2, rfl, hr, hB⟩ := hrel
    by_cases hlt : j < l.length
    · have hS := h.below hB
      have hbl := hS.lt (by omega)
      have hst := riseOB_step l j hj1 hlt
      rw [hr] at hst
      obtain ⟨c1, c2, c5⟩ := hS.cells j hlt
      obtain ⟨c3, c4, c6⟩ := hS.cells (j - 1) (by omega)
      have hji : (j : Int) < (l.length : Int) := by omega
      obtain ⟨k, hk⟩ : ∃ k, j - 1 = k := ⟨_, rfl⟩
      have hkw : (j : Int) - 1 = (k : Int) := by omega
      have hki : (k : Int) < (l.length : Int) := by omega
      have hne : Op.bytesLess l[j - 1].2.1.toList l[j].2.1.toList = ltB l[j - 1].2.1 l[j].2.1 := rfl
      generalize l[j] = p at *
      generalize l[j - 1] = q at *
      rw [hk] at c3 c4 c6
      have o1 := last.On.cell c1 hbl
      have o2 := last.On.cell c2 hbl
      have o3 := last.On.cell c3 hbl
      have o4 := last.On.cell c4 hbl
      have o5 := last.On.cell c5 hbl
      have o6 := last.On.cell c6 hbl
      cases hL : ltB q.2.1 p.2.1
      all_goals
        rw [hL] at hst hne
        have HST := Hid.mk' hst
        clear hst hr hL hS hk
        go_wp2_with fail
        have hinh := last.On.inh wr.heap.size wr
        have hc1 : ∀ x : last.On wr.heap.size wr, Calls Try.prog 100 #[.agg #[.int .i64 p.1, .string p.2.1, .string p.2.2]] x.w fun e w' => e = .returned (.string p.2.1) ∧ ∃ y : last.On wr.heap.size wr, w' = y.w := fun x => last.Calls.on x (Nat.le_refl _) ((i_keyO p x.w).mono fun e w' ⟨he, hw⟩ => ⟨he, by rw [hw]; exact (Below.refl _ _).alloc (Nat.le_refl _) _⟩)
        have hc2 : ∀ x : last.On wr.heap.size wr, Calls Try.prog 100 #[.agg #[.int .i64 q.1, .string q.2.1, .string q.2.2]] x.w fun e w' => e = .returned (.string q.2.1) ∧ ∃ y : last.On wr.heap.size wr, w' = y.w := fun x => last.Calls.on x (Nat.le_refl _) ((i_keyO q x.w).mono fun e w' ⟨he, hw⟩ => ⟨he, by rw [hw]; exact (Below.refl _ _).alloc (Nat.le_refl _) _⟩)
        refine last.wp_region_on wr.heap.size (by kernel_rfl) (by kernel_rfl) ?_
        repeat (go_big_quiet_step ((go_at_call 100; first | exact hc1 _ | exact hc2 _)))
        refine wpQuiet_nil ?_
        intro w5 hw5
        obtain ⟨x5, hw5⟩ := hw5
        subst hw5
        have hB5 : Below w.heap.size w x5.w := hB.trans (x5.2.mono hB.size)
        go_wp2_with fail
      · go_ret
        exact ⟨ret_bool (by rw [HST.out]; rfl), hB5⟩
      · go_roundw
        case rel => exact ⟨j + 1, by omega, by omega, by go_num, by rw [HST.out]; simp, hB5⟩
        case measure => simp [intOf]; omega
    · have HF : Hid (R = true) := by show _ = _; rw [← hr]; exact riseOB_end l j (by omega)
      clear hr
      go_wp2_with fail
      go_ret
      exact ⟨ret_bool (by rw [HF.out]), hB⟩

set_option maxRecDepth 100000 in
set_option maxHeartbeats 2000000 in
theorem impl_opsOk (b off len cap : Nat) (l : List Od) (w : World) (h : SlO w (some ⟨b, off, none⟩) len l) (hks : ∀ p ∈ l, p.2.1.size ≤ 1099511627776) :
    Calls Try.prog 17 #[.slice (some ⟨b, off, none⟩) len cap] w fun e w' => e = .returned (.bool (opsOk l)) ∧ Below w.heap.size w w' := by
  have hl := h.1
  have hm := h.2.1
  have hsm := h.2.2.1
  subst hl
  unfold maxLen at hm
  by_cases h1 : l.length < 1
  · go_enter Try.func17, Try.ntmps17
    go_wp2_with fail
    go_ret
    exact ⟨ret_bool (by unfold opsOk; rw [decide_eq_false (by omega : ¬ (1 ≤ l.length ∧ l.length ≤ 8))]; simp), Below.refl _ _⟩
  by_cases h8 : 8 < l.length
  · go_enter Try.func17, Try.ntmps17
    go_wp2_with fail
    go_ret
    exact ⟨ret_bool (by unfold opsOk; rw [decide_eq_false (by omega : ¬ (1 ≤ l.length ∧ l.length ≤ 8))]; simp), Below.refl _ _⟩
  · have HP : Hid (opsOk l = (l.all odOk && riseOB l)) := by show _ = _; unfold opsOk; rw [opsFrom_split, decide_eq_true (by omega : 1 ≤ l.length ∧ l.length ≤ 8)]; simp
    generalize hA : l.all odOk = A
    have HA := Hid.mk' hA
    clear hA
    go_enter Try.func17, Try.ntmps17
    go_wp2_with fail
    go_loopw [15] (fun i wr => ∃ k : Nat, k ≤ l.length ∧ i = .int .i64 (k : Int) ∧ (l.drop k).all odOk = A ∧ Below w.heap.size w wr) (fun i _ => l.length - (intOf i).toNat)
    case atStart => exact ⟨0, Nat.zero_le _, rfl, HA.out, Below.refl _ _⟩
    case round =>
      obtain ⟨k, hk, rfl, hr, hB⟩ := hrel
      by_cases hlt : k < l.length
      · obtain ⟨c1, c2, c3⟩ := (h.below hB).cells k hlt
        have hpk := hsm _ (List.getElem_mem hlt)
        have hks' := hks _ (List.getElem_mem hlt)
        have hki : (k : Int) < (l.length : Int) := by omega
        have hst := all_dropO l k hlt
        rw [hr] at hst
        have hcall := fun wx => i_opOk l[k] wx hpk hks'
        have hBA : Below w.heap.size w (wr.alloc (.cells #[.int .i64 l[k].1, .string l[k].2.1, .string l[k].2.2] 53)) := hB.alloc hB.size _
        generalize l[k] = p at *
        cases hP : odOk p
        all_goals
          rw [hP] at hst hcall
          have HST := Hid.mk' hst
          have HC := Hid.mk' hcall
          clear hst hr hcall hP
          go_wp2_with fail
          refine (HC.out _).mono ?_
          rintro e w3 ⟨rfl, hb3⟩
          have hB3 : Below w.heap.size w w3 := hBA.trans (hb3.mono hBA.size)
          clear hb3 hBA hB c1 c2 c3
          go_wp2_with fail
        · go_ret
          exact ⟨ret_bool (by rw [HP.out, HA.out, HST.out]; rfl), hB3⟩
        · go_roundw
          case rel => exact ⟨k + 1, by omega, by go_num, by rw [HST.out]; simp, hB3⟩
          case measure => simp [intOf]; omega
      · have HF : Hid (A = true) := by show _ = _; rw [← hr, List.drop_eq_nil_of_le (by omega)]; rfl
        have HI := Hid.mk' (i_risesO b off cap l wr (h.below hB) (by omega))
        clear hr
        go_wp2_with fail
        refine HI.out.mono ?_
        rintro e w3 ⟨rfl, hb3⟩
        have hB3 : Below w.heap.size w w3 := hB.trans (hb3.mono hB.size)
        clear hb3
        go_wp2_with fail
        go_ret
        exact ⟨ret_bool (by rw [HP.out, HA.out, HF.out]; simp), hB3⟩

end Go.Proofs.Ytefjbpkomphjdaa.ords
