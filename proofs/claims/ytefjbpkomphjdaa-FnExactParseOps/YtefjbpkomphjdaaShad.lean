/- The program's statements: what a sign tells. The specification's orders: all of them are right. hash walks The specification's orders: what is met, what is done, at which shard. The specification's orders: what is done, and those of a shard. -/
import Derived.Test.YtefjbpkomphjdaaShac
import Derived.Laws.Runes
import Derived.Laws.StructEq
import Derived.Test.YtefjbpkomphjdaaShab
import Derived.Test.YtefjbpkomphjdaaRows
import Derived.Test.YtefjbpkomphjdaaShaa
namespace Go.Proofs.Ytefjbpkomphjdaa.txts
open Go Go.RowKit Go.Proofs.Ytefjbpkomphjdaa.base Go.Proofs.Ytefjbpkomphjdaa.pairs Go.Proofs.Ytefjbpkomphjdaa.ords
set_option linter.unusedVariables false
set_option linter.unusedSimpArgs false

set_option maxHeartbeats 400000 in
theorem i_plainSign (c : Nat) (w : World) (hc : c ≤ 1114111) :
    Calls Try.prog 59 #[.int .i32 (c : Int)] w fun e w' => e = .returned (.bool (decide (c < 128) && keyCh c)) ∧ w' = w := by
  by_cases h1 : c < 128
  · have hi : (c : Int) < 128 := by omega
    have hw : IntKind.u8.wrap (c : Int) = (c : Int) := by rw [IntKind.wrap_u8]; omega
    have hl := i_keySign c w (by omega)
    rw [decide_eq_true h1]
    have HL := Hid.mk' hl
    clear hl
    generalize keyCh c = K at *
    cases K
    all_goals
      go_enter Try.func59, Try.ntmps59
      go_wp2_with fail
      refine HL.out.mono ?_
      rintro e w1 ⟨rfl, rfl⟩
      go_wp2_with fail
      go_ret
      exact ⟨rfl, rfl⟩
  · have hi : ¬ (c : Int) < 128 := by omega
    rw [decide_eq_false h1]
    go_enter Try.func59, Try.ntmps59
    go_wp2_with fail
    go_ret
    exact ⟨rfl, rfl⟩

def spellV : Option Od → Value
  | none => .iface 130 (.agg #[])
  | some o => .iface 59 (.agg #[.int .i64 o.1, .string o.2.1, .string o.2.2])
theorem rune_str (c : Nat) (hc : c < 128) (W : World) : (convert 21 9 (.int .i32 (c : Int))).run Try.prog W = .ok (.string ⟨#[UInt8.ofNat c]⟩) W := by
  rw [run_convert_int_string W 21 9 .i32 (c : Int) (by kernel_rfl) Try.underlying9]
  have hv : Utf8.valid (c : Int) = true := by unfold Utf8.valid; simp; omega
  unfold Utf8.encode
  rw [if_pos hv]
  simp only [Int.toNat_natCast]
  rw [if_pos (by omega)]

set_option maxRecDepth 100000 in
set_option maxHeartbeats 1000000 in
theorem i_longer (o : Od) (c : Nat) (w : World) (hc : keyCh c = true) (h1 : o.2.1.size ≤ 12) (h2 : o.2.2.size ≤ 20) :
    Calls Try.prog 101 #[.agg #[.int .i64 o.1, .string o.2.1, .string o.2.2], .int .i32 (c : Int)] w fun e w' =>
      e = .returned (spellV (if o.1 = 1 ∨ o.1 = 3 then (if o.2.2.size = 20 then none else some (o.1, o.2.1, ⟨(o.2.2.data.toList ++ [UInt8.ofNat c]).toArray⟩)) else (if o.2.1.size = 12 then none else some (o.1, ⟨(o.2.1.data.toList ++ [UInt8.ofNat c]).toArray⟩, o.2.2)))) ∧ Below w.heap.size w w' := by
  have hc128 : c < 128 := by
    unfold keyCh at hc; simp at hc; omega
  have HR := rune_str c hc128
  obtain ⟨z, key, val⟩ := o
  simp only [] at h1 h2 ⊢
  have hb := fun (k v : ByteArray) => (Below.refl w.heap.size w).alloc (Nat.le_refl _) (.cells #[.int .i64 z, .string k, .string v] 59)
  by_cases hz : z = 1 ∨ z = 3
  · rw [if_pos hz]
    by_cases h20 : val.size = 20
    · rw [if_pos h20]
      have h20i : (val.size : Int) = 20 := by omega
      have h20b : ((val.size : Int) == 20) = true := by rw [h20i]; rfl
      rcases hz with rfl | rfl
      all_goals
        go_enter Try.func101, Try.ntmps101
        go_wp2_with fail
        go_ret
        exact ⟨rfl, hb _ _⟩
    · rw [if_neg h20]
      have h20i : ¬ (val.size : Int) = 20 := by omega
      have h20b : ((val.size : Int) == 20) = false := by rw [beq_eq_false_iff_ne]; omega
      obtain ⟨u, hu⟩ : ∃ u, u = val ++ (⟨#[UInt8.ofNat c]⟩ : ByteArray) := ⟨_, rfl⟩
      have hue : (⟨(val.data.toList ++ [UInt8.ofNat c]).toArray⟩ : ByteArray) = u := by
        apply bytes_ext; rw [hu]; simp
      rw [hue]
      have ha : ∀ W, (Op.stringOp .add val ⟨#[UInt8.ofNat c]⟩).run Try.prog W = .ok (.string u) W := fun W => by
        rw [hu]; exact run_string_add_sum W val ⟨#[UInt8.ofNat c]⟩ (by show val.size + 1 ≤ _; omega)
      clear hu hue
      rcases hz with rfl | rfl
      all_goals
        go_enter Try.func101, Try.ntmps101
        go_wp2_with fail
        go_ret
        exact ⟨rfl, hb _ _⟩
  · rw [if_neg hz]
    have hz1 : ¬ z = 1 := fun e => hz (.inl e)
    have hz3 : ¬ z = 3 := fun e => hz (.inr e)
    have hz1b : (z == 1) = false := beq_eq_false_iff_ne.2 hz1
    have hz3b : (z == 3) = false := beq_eq_false_iff_ne.2 hz3
    by_cases h12 : key.size = 12
    · rw [if_pos h12]
      have h20i : (key.size : Int) = 12 := by omega
      have h20b : ((key.size : Int) == 12) = true := by rw [h20i]; rfl
      go_enter Try.func101, Try.ntmps101
      go_wp2_with fail
      go_ret
      exact ⟨rfl, hb _ _⟩
    · rw [if_neg h12]
      have h20i : ¬ (key.size : Int) = 12 := by omega
      have h20b : ((key.size : Int) == 12) = false := by rw [beq_eq_false_iff_ne]; omega
      obtain ⟨u, hu⟩ : ∃ u, u = key ++ (⟨#[UInt8.ofNat c]⟩ : ByteArray) := ⟨_, rfl⟩
      have hue : (⟨(key.data.toList ++ [UInt8.ofNat c]).toArray⟩ : ByteArray) = u := by
        apply bytes_ext; rw [hu]; simp
      rw [hue]
      have ha : ∀ W, (Op.stringOp .add key ⟨#[UInt8.ofNat c]⟩).run Try.prog W = .ok (.string u) W := fun W => by
        rw [hu]; exact run_string_add_sum W key ⟨#[UInt8.ofNat c]⟩ (by show key.size + 1 ≤ _; omega)
      clear hu hue
      go_enter Try.func101, Try.ntmps101
      go_wp2_with fail
      go_ret
      exact ⟨rfl, hb _ _⟩

set_option maxRecDepth 100000 in
set_option maxHeartbeats 1000000 in
theorem i_withNone (c : Nat) (w : World) :
    Calls Try.prog 107 #[.agg #[], .int .i32 (c : Int)] w fun e w' => e = .returned (spellV none) ∧ Below w.heap.size w w' := by
  have hb := (Below.refl w.heap.size w).alloc (Nat.le_refl _) (.cells #[] 130)
  go_enter Try.func107, Try.ntmps107
  go_wp2_with fail
  go_ret
  exact ⟨rfl, hb⟩

/-! ### a sign -/
def stepR (o : Od) (c : Nat) : Option Od := if c < 128 then step (some o) (UInt8.ofNat c) else none
theorem eq_spelled (a a' : Int) (b b' c c' : ByteArray) (w : World) : (Op.equalIn 10000 59 (.agg #[.int .i64 a, .string b, .string c]) (.agg #[.int .i64 a', .string b', .string c'])).run Try.prog w = .ok (a == a' && (b.toList == b'.toList && c.toList == c'.toList)) w := by
  have u3 := Try.underlying3
  have u9 := Try.underlying9
  have a3 := Try.isAgg3
  have z3 := Try.sizeOf3
  have a9 := Try.isAgg9
  have z9 := Try.sizeOf9
  have hS : Try.prog.underlying 59 = some (.struct (Try.prog.fieldsOf 59)) := by kernel_rfl
  have hp : Try.prog.stoodInHeld 59 = false := by kernel_rfl
  rw [show (10000 : Nat) = 9999 + 1 from rfl, run_equalIn_agg w 9999 59 _ _ hS hp]
  simp only [Program.fieldsOf, Try.underlying59]
  go_simp
  by_cases h1 : a = a' <;> by_cases h2 : b.toList = b'.toList <;> by_cases h3 : c.toList = c'.toList <;> simp [h1, h2, h3]
theorem spelled_is (o : Od) (w : World) : (Op.equalIn 10000 59 (.agg #[.int .i64 o.1, .string o.2.1, .string o.2.2]) (.agg #[.int .i64 0, .string ⟨#[]⟩, .string ⟨#[]⟩])).run Try.prog w = .ok (decide (o = init)) w := by
  rw [eq_spelled]
  congr 1
  obtain ⟨a, b, c⟩ := o
  by_cases h1 : a = 0
  · by_cases h2 : b = ⟨#[]⟩
    · by_cases h3 : c = ⟨#[]⟩
      · subst h1 h2 h3; simp [init]
      · rw [decide_eq_false (by simp [h3])]
        have : (c.toList == (⟨#[]⟩ : ByteArray).toList) = false := by
          rw [beq_eq_false_iff_ne]; intro e; exact h3 (bytes_ext (by rw [← ByteArray.toList_eq, ← ByteArray.toList_eq]; exact e))
        rw [this]; simp
    · rw [decide_eq_false (by simp [h2])]
      have : (b.toList == (⟨#[]⟩ : ByteArray).toList) = false := by
        rw [beq_eq_false_iff_ne]; intro e; exact h2 (bytes_ext (by rw [← ByteArray.toList_eq, ← ByteArray.toList_eq]; exact e))
      rw [this]; simp
  · rw [decide_eq_false (by simp [h1]), beq_eq_false_iff_ne.2 h1]; rfl
theorem guard_spelled : Try.prog.eqGuardType Try.prog.depth 59 = false := by kernel_rfl
theorem ofNat_c (c d : Nat) (hc : c < 128) (hd : d < 128) : (UInt8.ofNat c = UInt8.ofNat d) ↔ c = d := by
  constructor
  · intro e
    have := congrArg UInt8.toNat e
    simp at this
    omega
  · rintro rfl; rfl
theorem key_ofNat (c : Nat) (hc : c < 128) : keyCh (UInt8.ofNat c).toNat = keyCh c := by
  congr 1; simp; omega

theorem stepR_key (o : Od) (c : Nat) (hp : (decide (c < 128) && keyCh c) = true) (h45 : ¬ c = 45) (h61 : ¬ c = 61) (h63 : ¬ c = 63) :
    stepR o c = if o.1 = 1 ∨ o.1 = 3 then (if o.2.2.size = 20 then none else some (o.1, o.2.1, ⟨(o.2.2.data.toList ++ [UInt8.ofNat c]).toArray⟩)) else (if o.2.1.size = 12 then none else some (o.1, ⟨(o.2.1.data.toList ++ [UInt8.ofNat c]).toArray⟩, o.2.2)) := by
  have hl : c < 128 := by simp at hp; exact hp.1
  have hkc : keyCh (UInt8.ofNat c).toNat = true := by rw [key_ofNat c hl]; simp at hp; exact hp.2
  unfold stepR
  rw [if_pos hl]
  simp only [step]
  rw [if_neg (fun e => h45 ((ofNat_c c 45 hl (by decide)).1 e.1)), if_neg (fun e => h61 ((ofNat_c c 61 hl (by decide)).1 e.1)), if_neg (fun e => h63 ((ofNat_c c 63 hl (by decide)).1 e.1)), if_pos hkc]
theorem stepR_no (o : Od) (c : Nat) (hp : (decide (c < 128) && keyCh c) = false) (h45 : ¬ (c = 45 ∧ o = init)) (h61 : ¬ (c = 61 ∧ o.1 = 0)) (h63 : ¬ (c = 63 ∧ o.1 = 0)) : stepR o c = none := by
  unfold stepR
  by_cases hl : c < 128
  · rw [if_pos hl]
    have hkc : ¬ keyCh (UInt8.ofNat c).toNat = true := by rw [key_ofNat c hl]; rw [decide_eq_true hl] at hp; simpa using hp
    simp only [step]
    rw [if_neg (fun e => h45 ⟨(ofNat_c c 45 hl (by decide)).1 e.1, e.2⟩), if_neg (fun e => h61 ⟨(ofNat_c c 61 hl (by decide)).1 e.1, e.2⟩), if_neg (fun e => h63 ⟨(ofNat_c c 63 hl (by decide)).1 e.1, e.2⟩), if_neg hkc]
  · rw [if_neg hl]
theorem stepR_put (o : Od) (h : o.1 = 0) : stepR o 61 = some (1, o.2.1, ⟨#[]⟩) := by
  unfold stepR
  rw [if_pos (by decide)]
  simp only [step]
  rw [if_neg (fun e => absurd e.1 (by decide)), if_pos ⟨by decide, h⟩]
theorem stepR_need (o : Od) (h : o.1 = 0) : stepR o 63 = some (3, o.2.1, ⟨#[]⟩) := by
  unfold stepR
  rw [if_pos (by decide)]
  simp only [step]
  rw [if_neg (fun e => absurd e.1 (by decide)), if_neg (fun e => absurd e.1 (by decide)), if_pos ⟨by decide, h⟩]
theorem stepR_del : stepR init 45 = some (2, ⟨#[]⟩, ⟨#[]⟩) := rfl

set_option maxRecDepth 100000 in
set_option maxHeartbeats 4000000 in
theorem i_withI (c : Nat) (w : World) (hc : c ≤ 1114111) (h1 : (⟨#[]⟩ : ByteArray).size ≤ 12) (h2 : (⟨#[]⟩ : ByteArray).size ≤ 20) :
    Calls Try.prog 102 #[.agg #[.int .i64 0, .string (⟨#[]⟩ : ByteArray), .string (⟨#[]⟩ : ByteArray)], .int .i32 (c : Int)] w fun e w' => e = .returned (spellV (stepR (0, (⟨#[]⟩ : ByteArray), (⟨#[]⟩ : ByteArray)) c)) ∧ Below w.heap.size w w' := by
  have hb : Below w.heap.size w (w.alloc (.cells #[.int .i64 0, .string (⟨#[]⟩ : ByteArray), .string (⟨#[]⟩ : ByteArray)] 59)) := (Below.refl w.heap.size w).alloc (Nat.le_refl _) _
  have HQ : ∀ W, (Op.equalIn 10000 59 (.agg #[.int .i64 0, .string (⟨#[]⟩ : ByteArray), .string (⟨#[]⟩ : ByteArray)]) (.agg #[.int .i64 0, .string ⟨#[]⟩, .string ⟨#[]⟩])).run Try.prog W = .ok true W := fun W => by have := spelled_is (0, (⟨#[]⟩ : ByteArray), (⟨#[]⟩ : ByteArray)) W; simpa [init] using this
  have hg := guard_spelled
  have HPS := fun W => i_plainSign c W hc
  have HNI : Hid (True) := trivial
  by_cases hcz : c = 45
  · subst hcz
    have b45 : (((45 : Nat) : Int) == 45) = true := rfl
    have b61 : (((45 : Nat) : Int) == 61) = false := rfl
    have b63 : (((45 : Nat) : Int) == 63) = false := rfl
    have HR := Hid.mk' stepR_del
    clear HPS
    go_enter Try.func102, Try.ntmps102
    go_wp2_with fail
    go_ret
    exact ⟨by rw [HR.out]; rfl, hb⟩
  · have h45 := hcz
    clear hcz
    by_cases hcz : c = 61
    · subst hcz
      have b45 : (((61 : Nat) : Int) == 45) = false := rfl
      have b61 : (((61 : Nat) : Int) == 61) = true := rfl
      have b63 : (((61 : Nat) : Int) == 63) = false := rfl
      have HR := Hid.mk' (stepR_put (0, (⟨#[]⟩ : ByteArray), (⟨#[]⟩ : ByteArray)) rfl)
      clear HPS
      go_enter Try.func102, Try.ntmps102
      go_wp2_with fail
      go_ret
      exact ⟨by rw [HR.out]; rfl, hb⟩
    · have h61 := hcz
      clear hcz
      by_cases hcz : c = 63
      · subst hcz
        have b45 : (((63 : Nat) : Int) == 45) = false := rfl
        have b61 : (((63 : Nat) : Int) == 61) = false := rfl
        have b63 : (((63 : Nat) : Int) == 63) = true := rfl
        have HR := Hid.mk' (stepR_need (0, (⟨#[]⟩ : ByteArray), (⟨#[]⟩ : ByteArray)) rfl)
        clear HPS
        go_enter Try.func102, Try.ntmps102
        go_wp2_with fail
        go_ret
        exact ⟨by rw [HR.out]; rfl, hb⟩
      · have h63 := hcz
        clear hcz
        have b45 : ((c : Int) == 45) = false := by rw [beq_eq_false_iff_ne]; omega
        have b61 : ((c : Int) == 61) = false := by rw [beq_eq_false_iff_ne]; omega
        have b63 : ((c : Int) == 63) = false := by rw [beq_eq_false_iff_ne]; omega
        cases hp : (decide (c < 128) && keyCh c)
        · have HR := Hid.mk' (stepR_no (0, (⟨#[]⟩ : ByteArray), (⟨#[]⟩ : ByteArray)) c hp (fun e => h45 e.1) (fun e => h61 e.1) (fun e => h63 e.1))
          rw [hp] at HPS
          have HPS := Hid.mk' HPS
          clear HNI hp
          go_enter Try.func102, Try.ntmps102
          go_wp2_with fail
          refine (HPS.out _).mono ?_
          rintro e w1 ⟨rfl, rfl⟩
          go_wp2_with fail
          go_ret
          exact ⟨by rw [HR.out]; rfl, hb⟩
        · have HLG : ∀ W, Calls Try.prog 101 #[.agg #[.int .i64 0, .string (⟨#[]⟩ : ByteArray), .string (⟨#[]⟩ : ByteArray)], .int .i32 (c : Int)] W fun e w' => e = .returned (spellV (stepR (0, (⟨#[]⟩ : ByteArray), (⟨#[]⟩ : ByteArray)) c)) ∧ Below W.heap.size W w' := fun W => by rw [stepR_key (0, (⟨#[]⟩ : ByteArray), (⟨#[]⟩ : ByteArray)) c hp h45 h61 h63]; exact i_longer (0, (⟨#[]⟩ : ByteArray), (⟨#[]⟩ : ByteArray)) c W (by simp at hp; exact hp.2) h1 h2
          generalize stepR (0, (⟨#[]⟩ : ByteArray), (⟨#[]⟩ : ByteArray)) c = R at *
          have HLG := Hid.mk' HLG
          rw [hp] at HPS
          have HPS := Hid.mk' HPS
          clear HNI hp
          go_enter Try.func102, Try.ntmps102
          go_wp2_with fail
          refine (HPS.out _).mono ?_
          rintro e w1 ⟨rfl, rfl⟩
          go_wp2_with fail
          refine (HLG.out _).mono ?_
          rintro e w2 ⟨rfl, hb2⟩
          go_wp2_with fail
          go_ret
          exact ⟨rfl, hb.trans (hb2.mono hb.size)⟩
set_option maxRecDepth 100000 in
set_option maxHeartbeats 4000000 in
theorem i_withZ (key val : ByteArray) (c : Nat) (w : World) (hc : c ≤ 1114111) (hni : ¬ ((0, key, val) : Od) = init) (h1 : key.size ≤ 12) (h2 : val.size ≤ 20) :
    Calls Try.prog 102 #[.agg #[.int .i64 0, .string key, .string val], .int .i32 (c : Int)] w fun e w' => e = .returned (spellV (stepR (0, key, val) c)) ∧ Below w.heap.size w w' := by
  have hb : Below w.heap.size w (w.alloc (.cells #[.int .i64 0, .string key, .string val] 59)) := (Below.refl w.heap.size w).alloc (Nat.le_refl _) _
  have HQ : ∀ W, (Op.equalIn 10000 59 (.agg #[.int .i64 0, .string key, .string val]) (.agg #[.int .i64 0, .string ⟨#[]⟩, .string ⟨#[]⟩])).run Try.prog W = .ok false W := fun W => by have := spelled_is (0, key, val) W; simpa [hni, -Prod.mk.injEq, -ByteArray.mk.injEq] using this
  have hg := guard_spelled
  have HPS := fun W => i_plainSign c W hc
  have HNI : Hid (¬ ((0, key, val) : Od) = init) := hni
  by_cases hcz : c = 45
  · subst hcz
    have b45 : (((45 : Nat) : Int) == 45) = true := rfl
    have b61 : (((45 : Nat) : Int) == 61) = false := rfl
    have b63 : (((45 : Nat) : Int) == 63) = false := rfl
    have HR := Hid.mk' (stepR_no (0, key, val) 45 (by decide) (fun e => by first | exact HNI.out e.2 | exact absurd e.1 (by decide)) (fun e => by first | exact absurd e.1 (by decide) | exact hk e.2) (fun e => by first | exact absurd e.1 (by decide) | exact hk e.2))
    have HPS : Hid (∀ W, Calls Try.prog 59 #[.int .i32 45] W fun e w' => e = .returned (.bool false) ∧ w' = W) := HPS
    clear HNI
    go_enter Try.func102, Try.ntmps102
    go_wp2_with fail
    refine (HPS.out _).mono ?_
    rintro e w1 ⟨rfl, rfl⟩
    go_wp2_with fail
    go_ret
    exact ⟨by rw [HR.out]; rfl, hb⟩
  · have h45 := hcz
    clear hcz
    by_cases hcz : c = 61
    · subst hcz
      have b45 : (((61 : Nat) : Int) == 45) = false := rfl
      have b61 : (((61 : Nat) : Int) == 61) = true := rfl
      have b63 : (((61 : Nat) : Int) == 63) = false := rfl
      have HR := Hid.mk' (stepR_put (0, key, val) rfl)
      clear HPS
      go_enter Try.func102, Try.ntmps102
      go_wp2_with fail
      go_ret
      exact ⟨by rw [HR.out]; rfl, hb⟩
    · have h61 := hcz
      clear hcz
      by_cases hcz : c = 63
      · subst hcz
        have b45 : (((63 : Nat) : Int) == 45) = false := rfl
        have b61 : (((63 : Nat) : Int) == 61) = false := rfl
        have b63 : (((63 : Nat) : Int) == 63) = true := rfl
        have HR := Hid.mk' (stepR_need (0, key, val) rfl)
        clear HPS
        go_enter Try.func102, Try.ntmps102
        go_wp2_with fail
        go_ret
        exact ⟨by rw [HR.out]; rfl, hb⟩
      · have h63 := hcz
        clear hcz
        have b45 : ((c : Int) == 45) = false := by rw [beq_eq_false_iff_ne]; omega
        have b61 : ((c : Int) == 61) = false := by rw [beq_eq_false_iff_ne]; omega
        have b63 : ((c : Int) == 63) = false := by rw [beq_eq_false_iff_ne]; omega
        cases hp : (decide (c < 128) && keyCh c)
        · have HR := Hid.mk' (stepR_no (0, key, val) c hp (fun e => h45 e.1) (fun e => h61 e.1) (fun e => h63 e.1))
          rw [hp] at HPS
          have HPS := Hid.mk' HPS
          clear HNI hp
          go_enter Try.func102, Try.ntmps102
          go_wp2_with fail
          refine (HPS.out _).mono ?_
          rintro e w1 ⟨rfl, rfl⟩
          go_wp2_with fail
          go_ret
          exact ⟨by rw [HR.out]; rfl, hb⟩
        · have HLG : ∀ W, Calls Try.prog 101 #[.agg #[.int .i64 0, .string key, .string val], .int .i32 (c : Int)] W fun e w' => e = .returned (spellV (stepR (0, key, val) c)) ∧ Below W.heap.size W w' := fun W => by rw [stepR_key (0, key, val) c hp h45 h61 h63]; exact i_longer (0, key, val) c W (by simp at hp; exact hp.2) h1 h2
          generalize stepR (0, key, val) c = R at *
          have HLG := Hid.mk' HLG
          rw [hp] at HPS
          have HPS := Hid.mk' HPS
          clear HNI hp
          go_enter Try.func102, Try.ntmps102
          go_wp2_with fail
          refine (HPS.out _).mono ?_
          rintro e w1 ⟨rfl, rfl⟩
          go_wp2_with fail
          refine (HLG.out _).mono ?_
          rintro e w2 ⟨rfl, hb2⟩
          go_wp2_with fail
          go_ret
          exact ⟨rfl, hb.trans (hb2.mono hb.size)⟩
set_option maxRecDepth 100000 in
set_option maxHeartbeats 4000000 in
theorem i_withK (z : Int) (key val : ByteArray) (c : Nat) (w : World) (hc : c ≤ 1114111) (hk : ¬ z = 0) (h1 : key.size ≤ 12) (h2 : val.size ≤ 20) :
    Calls Try.prog 102 #[.agg #[.int .i64 z, .string key, .string val], .int .i32 (c : Int)] w fun e w' => e = .returned (spellV (stepR (z, key, val) c)) ∧ Below w.heap.size w w' := by
  have hb : Below w.heap.size w (w.alloc (.cells #[.int .i64 z, .string key, .string val] 59)) := (Below.refl w.heap.size w).alloc (Nat.le_refl _) _
  have HQ : ∀ W, (Op.equalIn 10000 59 (.agg #[.int .i64 z, .string key, .string val]) (.agg #[.int .i64 0, .string ⟨#[]⟩, .string ⟨#[]⟩])).run Try.prog W = .ok false W := fun W => by have := spelled_is (z, key, val) W; simpa [init, hk] using this
  have hg := guard_spelled
  have HPS := fun W => i_plainSign c W hc
  have HNI : Hid (¬ ((z, key, val) : Od) = init) := fun e => hk (congrArg (fun o : Od => o.1) e)
  have hkb : (z == 0) = false := beq_eq_false_iff_ne.2 hk
  by_cases hcz : c = 45
  · subst hcz
    have b45 : (((45 : Nat) : Int) == 45) = true := rfl
    have b61 : (((45 : Nat) : Int) == 61) = false := rfl
    have b63 : (((45 : Nat) : Int) == 63) = false := rfl
    have HR := Hid.mk' (stepR_no (z, key, val) 45 (by decide) (fun e => by first | exact HNI.out e.2 | exact absurd e.1 (by decide)) (fun e => by first | exact absurd e.1 (by decide) | exact hk e.2) (fun e => by first | exact absurd e.1 (by decide) | exact hk e.2))
    have HPS : Hid (∀ W, Calls Try.prog 59 #[.int .i32 45] W fun e w' => e = .returned (.bool false) ∧ w' = W) := HPS
    clear HNI
    go_enter Try.func102, Try.ntmps102
    go_wp2_with fail
    refine (HPS.out _).mono ?_
    rintro e w1 ⟨rfl, rfl⟩
    go_wp2_with fail
    go_ret
    exact ⟨by rw [HR.out]; rfl, hb⟩
  · have h45 := hcz
    clear hcz
    by_cases hcz : c = 61
    · subst hcz
      have b45 : (((61 : Nat) : Int) == 45) = false := rfl
      have b61 : (((61 : Nat) : Int) == 61) = true := rfl
      have b63 : (((61 : Nat) : Int) == 63) = false := rfl
      have HR := Hid.mk' (stepR_no (z, key, val) 61 (by decide) (fun e => by first | exact HNI.out e.2 | exact absurd e.1 (by decide)) (fun e => by first | exact absurd e.1 (by decide) | exact hk e.2) (fun e => by first | exact absurd e.1 (by decide) | exact hk e.2))
      have HPS : Hid (∀ W, Calls Try.prog 59 #[.int .i32 61] W fun e w' => e = .returned (.bool false) ∧ w' = W) := HPS
      clear HNI
      go_enter Try.func102, Try.ntmps102
      go_wp2_with fail
      refine (HPS.out _).mono ?_
      rintro e w1 ⟨rfl, rfl⟩
      go_wp2_with fail
      go_ret
      exact ⟨by rw [HR.out]; rfl, hb⟩
    · have h61 := hcz
      clear hcz
      by_cases hcz : c = 63
      · subst hcz
        have b45 : (((63 : Nat) : Int) == 45) = false := rfl
        have b61 : (((63 : Nat) : Int) == 61) = false := rfl
        have b63 : (((63 : Nat) : Int) == 63) = true := rfl
        have HR := Hid.mk' (stepR_no (z, key, val) 63 (by decide) (fun e => by first | exact HNI.out e.2 | exact absurd e.1 (by decide)) (fun e => by first | exact absurd e.1 (by decide) | exact hk e.2) (fun e => by first | exact absurd e.1 (by decide) | exact hk e.2))
        have HPS : Hid (∀ W, Calls Try.prog 59 #[.int .i32 63] W fun e w' => e = .returned (.bool false) ∧ w' = W) := HPS
        clear HNI
        go_enter Try.func102, Try.ntmps102
        go_wp2_with fail
        refine (HPS.out _).mono ?_
        rintro e w1 ⟨rfl, rfl⟩
        go_wp2_with fail
        go_ret
        exact ⟨by rw [HR.out]; rfl, hb⟩
      · have h63 := hcz
        clear hcz
        have b45 : ((c : Int) == 45) = false := by rw [beq_eq_false_iff_ne]; omega
        have b61 : ((c : Int) == 61) = false := by rw [beq_eq_false_iff_ne]; omega
        have b63 : ((c : Int) == 63) = false := by rw [beq_eq_false_iff_ne]; omega
        cases hp : (decide (c < 128) && keyCh c)
        · have HR := Hid.mk' (stepR_no (z, key, val) c hp (fun e => h45 e.1) (fun e => h61 e.1) (fun e => h63 e.1))
          rw [hp] at HPS
          have HPS := Hid.mk' HPS
          clear HNI hp
          go_enter Try.func102, Try.ntmps102
          go_wp2_with fail
          refine (HPS.out _).mono ?_
          rintro e w1 ⟨rfl, rfl⟩
          go_wp2_with fail
          go_ret
          exact ⟨by rw [HR.out]; rfl, hb⟩
        · have HLG : ∀ W, Calls Try.prog 101 #[.agg #[.int .i64 z, .string key, .string val], .int .i32 (c : Int)] W fun e w' => e = .returned (spellV (stepR (z, key, val) c)) ∧ Below W.heap.size W w' := fun W => by rw [stepR_key (z, key, val) c hp h45 h61 h63]; exact i_longer (z, key, val) c W (by simp at hp; exact hp.2) h1 h2
          generalize stepR (z, key, val) c = R at *
          have HLG := Hid.mk' HLG
          rw [hp] at HPS
          have HPS := Hid.mk' HPS
          clear HNI hp
          go_enter Try.func102, Try.ntmps102
          go_wp2_with fail
          refine (HPS.out _).mono ?_
          rintro e w1 ⟨rfl, rfl⟩
          go_wp2_with fail
          refine (HLG.out _).mono ?_
          rintro e w2 ⟨rfl, hb2⟩
          go_wp2_with fail
          go_ret
          exact ⟨rfl, hb.trans (hb2.mono hb.size)⟩
theorem i_with (o : Od) (c : Nat) (w : World) (hc : c ≤ 1114111) (h1 : o.2.1.size ≤ 12) (h2 : o.2.2.size ≤ 20) :
    Calls Try.prog 102 #[.agg #[.int .i64 o.1, .string o.2.1, .string o.2.2], .int .i32 (c : Int)] w fun e w' => e = .returned (spellV (stepR o c)) ∧ Below w.heap.size w w' := by
  obtain ⟨z, key, val⟩ := o
  by_cases hk : z = 0
  · subst hk
    by_cases hi : ((0, key, val) : Od) = init
    · cases hi
      exact i_withI c w hc h1 h2
    · exact i_withZ key val c w hc hi h1 h2
  · exact i_withK z key val c w hc hk h1 h2

end Go.Proofs.Ytefjbpkomphjdaa.txts

namespace Go.Proofs.Ytefjbpkomphjdaa.ords
open Go Go.RowKit Go.Proofs.Ytefjbpkomphjdaa.base Go.Proofs.Ytefjbpkomphjdaa.pairs
set_option linter.unusedVariables false
set_option linter.unusedSimpArgs false

def prevO (l : List Od) (k : Nat) : Option ByteArray := if k = 0 then none else (l[k - 1]?).map (·.2.1)
theorem opsFrom_zero (l : List Od) (k : Nat) (h : k < l.length) (h0 : k = 0) : opsFrom (prevO l k) (l.drop k) = (odOk l[k] && opsFrom (prevO l (k + 1)) (l.drop (k + 1))) := by
  subst h0
  cases l with
  | nil => simp at h
  | cons p l => simp [prevO, opsFrom]
theorem opsFrom_step (l : List Od) (k : Nat) (h : k < l.length) (h0 : 0 < k) : opsFrom (prevO l k) (l.drop k) = (odOk l[k] && ltB l[k - 1].2.1 l[k].2.1 && opsFrom (prevO l (k + 1)) (l.drop (k + 1))) := by
  have e1 : prevO l k = some l[k - 1].2.1 := by unfold prevO; rw [if_neg (by omega), List.getElem?_eq_getElem (by omega)]; rfl
  have e2 : prevO l (k + 1) = some l[k].2.1 := by unfold prevO; rw [if_neg (by omega), Nat.add_sub_cancel, List.getElem?_eq_getElem h]; rfl
  rw [e1, e2, List.drop_eq_getElem_cons h, opsFrom]

set_option maxRecDepth 100000 in
set_option maxHeartbeats 2000000 in
theorem spec_opsOk (b off len cap : Nat) (l : List Od) (w : World) (h : SlO w (some ⟨b, off, none⟩) len l) (hks : ∀ p ∈ l, p.2.1.size ≤ 1099511627776) :
    Calls Try.prog 35 #[.slice (some ⟨b, off, none⟩) len cap] w fun e w' => e = .returned (.bool (opsOk l)) ∧ Below w.heap.size w w' := by
  have hl := h.1
  have hm := h.2.1
  have hsm := h.2.2.1
  subst hl
  unfold maxLen at hm
  generalize hR : opsFrom none l = R
  have HR := Hid.mk' hR
  clear hR
  go_enter Try.func35, Try.ntmps35
  go_wp2_with fail
  go_loopw [3] (fun i wr => ∃ k : Nat, k ≤ l.length ∧ i = .int .i64 (k : Int) ∧ opsFrom (prevO l k) (l.drop k) = R ∧ Below w.heap.size w wr) (fun i _ => l.length - (intOf i).toNat)
  case atStart => exact ⟨0, Nat.zero_le _, rfl, HR.out, Below.refl _ _⟩
  case round =>
    obtain ⟨k, hk, rfl, hr, hB⟩ := hrel
    by_cases hlt : k < l.length
    · have hS := h.below hB
      obtain ⟨c0, c1, c2⟩ := hS.cells k hlt
      have hbl := hS.lt (by omega)
      have hpk := hsm _ (List.getElem_mem hlt)
      have hks' := hks _ (List.getElem_mem hlt)
      have hki : (k : Int) < (l.length : Int) := by omega
      have hbd : b < wr.drew.heap.size := hbl
      by_cases h0 : k = 0
      · have hst := opsFrom_zero l k hlt h0
        rw [hr] at hst
        have hk0 : ¬ (0 : Int) < (k : Int) := by omega
        have hk1 : decide (0 < k) = false := by simp; omega
        have hk2 : decide ((0 : Int) < (k : Int)) = false := by simp; omega
        cases hP : odOk l[k]
        · have HF : Hid (R = false) := by rw [hP] at hst; exact hst
          have HP := Hid.mk' hP
          clear hst hr hP hS h0
          generalize l[k] = p at *
          have o0 := last.On.cell c0 hbl
          have o1 := last.On.cell c1 hbl
          have o2 := last.On.cell c2 hbl
          go_wp2_with fail
          have hinh := last.On.inh wr.heap.size wr
          have hcall : ∀ x : last.On wr.heap.size wr, Calls Try.prog 61 #[.agg #[.int .i64 p.1, .string p.2.1, .string p.2.2]] x.w fun e w' => e = .returned (.bool false) ∧ ∃ y : last.On wr.heap.size wr, w' = y.w := fun x => last.Calls.on x (Nat.le_refl _) (by have := spec_l7Op p x.w hpk hks'; rw [HP.out] at this; exact this)
          refine last.wp_region_on wr.heap.size (by kernel_rfl) (by kernel_rfl) ?_
          repeat (go_big_quiet_step ((go_at_call 61; exact hcall _)))
          refine wpQuiet_nil ?_
          intro w5 hw5
          obtain ⟨x5, hw5⟩ := hw5
          subst hw5
          have hB5 : Below w.heap.size w x5.w := hB.trans (x5.2.mono hB.size)
          go_wp2_with fail
          go_ret
          exact ⟨ret_bool (by unfold opsOk; rw [HR.out, HF.out]; rfl), hB5⟩
        · have HF : Hid (opsFrom (prevO l (k + 1)) (l.drop (k + 1)) = R) := by show _ = _; rw [hP] at hst; simpa using hst.symm
          have HP := Hid.mk' hP
          clear hst hr hP hS h0
          generalize l[k] = p at *
          have o0 := last.On.cell c0 hbl
          have o1 := last.On.cell c1 hbl
          have o2 := last.On.cell c2 hbl
          go_wp2_with fail
          have hinh := last.On.inh wr.heap.size wr
          have hcall : ∀ x : last.On wr.heap.size wr, Calls Try.prog 61 #[.agg #[.int .i64 p.1, .string p.2.1, .string p.2.2]] x.w fun e w' => e = .returned (.bool true) ∧ ∃ y : last.On wr.heap.size wr, w' = y.w := fun x => last.Calls.on x (Nat.le_refl _) (by have := spec_l7Op p x.w hpk hks'; rw [HP.out] at this; exact this)
          refine last.wp_region_on wr.heap.size (by kernel_rfl) (by kernel_rfl) ?_
          repeat (go_big_quiet_step ((go_at_call 61; exact hcall _)))
          refine wpQuiet_nil ?_
          intro w5 hw5
          obtain ⟨x5, hw5⟩ := hw5
          subst hw5
          have hB5 : Below w.heap.size w x5.w := hB.trans (x5.2.mono hB.size)
          go_wp2_with fail
          go_roundw
          case rel => exact ⟨k + 1, by omega, by go_num, HF.out, hB5⟩
          case measure => simp [intOf]; omega
      · have hst := opsFrom_step l k hlt (by omega)
        rw [hr] at hst
        have hk0 : (0 : Int) < (k : Int) := by omega
        have hk1 : decide (0 < k) = true := by simp; omega
        have hk2 : decide ((0 : Int) < (k : Int)) = true := by simp; omega
        have c3 := (hS.cells (k - 1) (by omega)).2.1
        obtain ⟨j, hj⟩ : ∃ j, k - 1 = j := ⟨_, rfl⟩
        have hjw : (k : Int) - 1 = (j : Int) := by omega
        have hjk : (j : Int) < (l.length : Int) := by omega
        generalize l[k - 1].2.1 = q at *
        rw [hj] at c3
        have o3 := last.On.cell c3 hbl
        cases hP : odOk l[k]
        · have HF : Hid (R = false) := by rw [hP] at hst; exact hst
          have HP := Hid.mk' hP
          clear hst hr hP hS h0 hj
          generalize l[k] = p at *
          have o0 := last.On.cell c0 hbl
          have o1 := last.On.cell c1 hbl
          have o2 := last.On.cell c2 hbl
          go_wp2_with fail
          have hinh := last.On.inh wr.heap.size wr
          have hcall : ∀ x : last.On wr.heap.size wr, Calls Try.prog 61 #[.agg #[.int .i64 p.1, .string p.2.1, .string p.2.2]] x.w fun e w' => e = .returned (.bool false) ∧ ∃ y : last.On wr.heap.size wr, w' = y.w := fun x => last.Calls.on x (Nat.le_refl _) (by have := spec_l7Op p x.w hpk hks'; rw [HP.out] at this; exact this)
          refine last.wp_region_on wr.heap.size (by kernel_rfl) (by kernel_rfl) ?_
          repeat (go_big_quiet_step ((go_at_call 61; exact hcall _)))
          refine wpQuiet_nil ?_
          intro w5 hw5
          obtain ⟨x5, hw5⟩ := hw5
          subst hw5
          have hB5 : Below w.heap.size w x5.w := hB.trans (x5.2.mono hB.size)
          go_wp2_with fail
          go_ret
          exact ⟨ret_bool (by unfold opsOk; rw [HR.out, HF.out]; rfl), hB5⟩
        · cases hL : ltB q l[k].2.1
          · have HF : Hid (R = false) := by show _ = _; rw [hP, hL] at hst; simpa using hst
            have HP := Hid.mk' hP
            have hl2 : Op.bytesLess q.toList l[k].2.1.toList = false := hL
            clear hst hr hP hS h0 hj hL
            generalize l[k] = p at *
            have o0 := last.On.cell c0 hbl
            have o1 := last.On.cell c1 hbl
            have o2 := last.On.cell c2 hbl
            go_wp2_with fail
            have hinh := last.On.inh wr.heap.size wr
            have hcall : ∀ x : last.On wr.heap.size wr, Calls Try.prog 61 #[.agg #[.int .i64 p.1, .string p.2.1, .string p.2.2]] x.w fun e w' => e = .returned (.bool true) ∧ ∃ y : last.On wr.heap.size wr, w' = y.w := fun x => last.Calls.on x (Nat.le_refl _) (by have := spec_l7Op p x.w hpk hks'; rw [HP.out] at this; exact this)
            refine last.wp_region_on wr.heap.size (by kernel_rfl) (by kernel_rfl) ?_
            repeat (go_big_quiet_step ((go_at_call 61; exact hcall _)))
            refine wpQuiet_nil ?_
            intro w5 hw5
            obtain ⟨x5, hw5⟩ := hw5
            subst hw5
            have hB5 : Below w.heap.size w x5.w := hB.trans (x5.2.mono hB.size)
            go_wp2_with fail
            go_ret
            exact ⟨ret_bool (by unfold opsOk; rw [HR.out, HF.out]; rfl), hB5⟩
          · have HF : Hid (opsFrom (prevO l (k + 1)) (l.drop (k + 1)) = R) := by show _ = _; rw [hP, hL] at hst; simpa using hst.symm
            have HP := Hid.mk' hP
            have hl2 : Op.bytesLess q.toList l[k].2.1.toList = true := hL
            clear hst hr hP hS h0 hj hL
            generalize l[k] = p at *
            have o0 := last.On.cell c0 hbl
            have o1 := last.On.cell c1 hbl
            have o2 := last.On.cell c2 hbl
            go_wp2_with fail
            have hinh := last.On.inh wr.heap.size wr
            have hcall : ∀ x : last.On wr.heap.size wr, Calls Try.prog 61 #[.agg #[.int .i64 p.1, .string p.2.1, .string p.2.2]] x.w fun e w' => e = .returned (.bool true) ∧ ∃ y : last.On wr.heap.size wr, w' = y.w := fun x => last.Calls.on x (Nat.le_refl _) (by have := spec_l7Op p x.w hpk hks'; rw [HP.out] at this; exact this)
            refine last.wp_region_on wr.heap.size (by kernel_rfl) (by kernel_rfl) ?_
            repeat (go_big_quiet_step ((go_at_call 61; exact hcall _)))
            refine wpQuiet_nil ?_
            intro w5 hw5
            obtain ⟨x5, hw5⟩ := hw5
            subst hw5
            have hB5 : Below w.heap.size w x5.w := hB.trans (x5.2.mono hB.size)
            go_wp2_with fail
            go_roundw
            case rel => exact ⟨k + 1, by omega, by go_num, HF.out, hB5⟩
            case measure => simp [intOf]; omega
    · have HF : Hid (R = true) := by show _ = _; rw [← hr, List.drop_eq_nil_of_le (by omega)]; cases prevO l k <;> rfl
      clear hr
      go_wp2_with fail
      refine (s_inZ (l.length : Int) 1 8 _).mono ?_
      rintro e w9 ⟨rfl, rfl⟩
      go_wp2_with fail
      go_ret
      exact ⟨ret_bool (by unfold opsOk; rw [HR.out, HF.out, Bool.true_and]; have e : (1 ≤ (l.length : Int) ∧ (l.length : Int) ≤ 8) ↔ (1 ≤ l.length ∧ l.length ≤ 8) := by omega
                          rw [← Bool.decide_and]; exact decide_eq_decide.2 e), hB⟩

end Go.Proofs.Ytefjbpkomphjdaa.ords

namespace Go.Proofs.Ytefjbpkomphjdaa.hash
open Go.RowKit Go.Proofs.Ytefjbpkomphjdaa.base
set_option linter.unusedVariables false
set_option linter.unusedSimpArgs false


end Go.Proofs.Ytefjbpkomphjdaa.hash

namespace Go.Proofs.Ytefjbpkomphjdaa.ords
open Go Go.RowKit Go.Proofs.Ytefjbpkomphjdaa.base Go.Proofs.Ytefjbpkomphjdaa.pairs
set_option linter.unusedVariables false
set_option linter.unusedSimpArgs false

end Go.Proofs.Ytefjbpkomphjdaa.ords

namespace Go.Proofs.Ytefjbpkomphjdaa.ords
open Go Go.RowKit Go.Proofs.Ytefjbpkomphjdaa.base Go.Proofs.Ytefjbpkomphjdaa.pairs
set_option linter.unusedVariables false
set_option linter.unusedSimpArgs false

theorem cells_three (w : World) (v1 v2 v3 : Value) (t : TypeId) : ∀ j u, [v1, v2, v3][j]? = some u → (w.alloc (.cells #[v1, v2, v3] t)).cell? ((⟨w.heap.size, 0, none⟩ : Addr).add j) = some u := by
  intro j u hj
  have hl : j < 3 := by have := (List.getElem?_eq_some_iff.1 hj).1; simpa using this
  rw [Addr.add_lit]
  match j, hl with
  | 0, _ => simp at hj; subst hj; simp [go_sem]
  | 1, _ => simp at hj; subst hj; simp [go_sem]
  | 2, _ => simp at hj; subst hj; simp [go_sem]
theorem one_ord_cells (w : World) (p : Od) (t : TypeId) : ∀ j u, (ordVals [p])[j]? = some u → (w.alloc (.cells #[.int .i64 p.1, .string p.2.1, .string p.2.2] t)).cell? ((⟨w.heap.size, 0, none⟩ : Addr).add j) = some u :=
  cells_three w (.int .i64 p.1) (.string p.2.1) (.string p.2.2) t
theorem ownO_app {w' : World} {base n : Nat} {v' : Value} {l : List Od} {p : Od} (hl : l.length = n) (hs : ∀ q ∈ l, smallO q) (hp : smallO p) (h0 : ¬ v' = .slice none 0 0)
    (h : w'.ownsRow base 53 3 v' (n + 1) (ordVals l ++ ordVals [p])) : ∃ g' cap', v' = .slice (some ⟨g', 0, none⟩) (n + 1) cap' ∧ OwnO w' base g' (n + 1) cap' (l ++ [p]) := by
  rw [← ordVals_append] at h
  refine ownO_val (by simp; omega) ?_ h0 h
  intro q hq
  rcases List.mem_append.1 hq with h1 | h1
  · exact hs q h1
  · simp at h1; subst h1; exact hp

end Go.Proofs.Ytefjbpkomphjdaa.ords
