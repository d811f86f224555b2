/- The program's words: what is said within, and what is right. -/
import Derived.Test.YtjodbijcgcjndaaBund10bf
import Derived.Handy
import Derived.BigQuiet
namespace Go.Proofs.Ytjodbijcgcjndaa.wds
open Go Go.RowKit Go.Proofs.Ytjodbijcgcjndaa.base Go.Proofs.Ytjodbijcgcjndaa.pairs Go.Proofs.Ytjodbijcgcjndaa.ords Go.Proofs.Ytjodbijcgcjndaa.putnum Go.Proofs.Ytjodbijcgcjndaa.puttext Go.Proofs.Ytjodbijcgcjndaa.getnum Go.Proofs.Ytjodbijcgcjndaa.gettext Go.Proofs.Ytjodbijcgcjndaa.gettexts
set_option linter.unusedVariables false
set_option linter.unusedSimpArgs false

/-- what a word is within, and whether it has no more than its kind names -/
def saidV (k s t : Int) (a : Option Addr) (len cap : Nat) (y : Bool) : Value := if k = 1 then .iface 76 (.agg #[.int .i64 s, .int .i64 t, .slice a len cap]) else if k = 2 then .iface 78 (.agg #[.int .i64 s, .int .i64 t, .bool y]) else if k = 3 then .iface 79 (.agg #[.int .i64 s, .int .i64 t, .bool y]) else if k = 4 then .iface 81 (.agg #[.int .i64 s, .int .i64 t]) else .nilIface
def fits (k : Int) (l : List Od) (y : Bool) : Bool := if k = 1 then !y else if k = 2 ∨ k = 3 then l.isEmpty else if k = 4 then l.isEmpty && !y else false
theorem two_below (w : World) (o o2 : Obj) : Below w.heap.size w ((w.alloc o).alloc o2) := ((Below.refl _ _).alloc (Nat.le_refl _) _).alloc (by simp) _
theorem fits_ok (k : Int) (l : List Od) (y : Bool) : kindOk k l y = (fits k l y && (if k = 1 then opsOk l else true)) := by
  unfold kindOk fits
  by_cases h1 : k = 1
  · rw [if_pos h1, if_pos h1, if_pos h1, Bool.and_comm]
  · rw [if_neg h1, if_neg h1, if_neg h1, Bool.and_true]

theorem i_about (s t : Int) (w : World) :
    Calls Try.prog 96 #[.agg #[.int .i64 s, .int .i64 t]] w fun e w' => e = .returned (.agg #[.int .i64 s, .int .i64 t]) ∧ Below w.heap.size w w' := by
  go_enter Try.func96, Try.ntmps96
  go_wp2_with fail
  go_returns
  exact ⟨rfl, two_below _ _ _⟩
theorem i_shardIdOk (s : Int) (w : World) : Calls Try.prog 52 #[.int .i64 s] w fun e w' => e = .returned (.bool (decide (0 ≤ s ∧ s ≤ 7))) ∧ w' = w := by
  by_cases h1 : 0 ≤ s
  · by_cases h2 : s ≤ 7
    · have H3 : Hid (decide (0 ≤ s ∧ s ≤ 7) = true) := decide_eq_true ⟨h1, h2⟩
      go_enter Try.func52, Try.ntmps52
      go_wp2_with fail
      go_ret
      exact ⟨ret_bool (by simp; omega), rfl⟩
    · have H3 : Hid (decide (0 ≤ s ∧ s ≤ 7) = false) := decide_eq_false (fun h => h2 h.2)
      go_enter Try.func52, Try.ntmps52
      go_wp2_with fail
      go_ret
      exact ⟨ret_bool (by simp; omega), rfl⟩
  · have H3 : Hid (decide (0 ≤ s ∧ s ≤ 7) = false) := decide_eq_false (fun h => h1 h.1)
    go_enter Try.func52, Try.ntmps52
    go_wp2_with fail
    go_ret
    exact ⟨ret_bool (by simp; omega), rfl⟩
set_option maxRecDepth 100000 in
set_option maxHeartbeats 4000000 in
theorem i_saidOf (k s t : Int) (a : Option Addr) (len cap : Nat) (l : List Od) (y : Bool) (w : World) (h : SlO w a len l) :
    Calls Try.prog 29 #[wdV k s t (.slice a len cap) y] w fun e w' => e = .returned (.tuple #[saidV k s t a len cap y, .bool (fits k l y)]) ∧ Below w.heap.size w w' := by
  have hm := h.2.1
  have hl := h.1
  unfold maxLen at hm
  have hie : l.isEmpty = ((len : Int) == 0) := by
    rw [← hl]
    cases l with
    | nil => rfl
    | cons x l => simp [Int.natCast_add]; omega
  have HB := Hid.mk' (two_below w (.cells #[.int .i64 k, .int .i64 s, .int .i64 t, .slice a len cap, .bool y] 26) (.cells #[.int .i64 s, .int .i64 t] 74))
  have hgo : ∀ n, Below w.heap.size w ((((w.alloc (.cells #[.int .i64 k, .int .i64 s, .int .i64 t, .slice a len cap, .bool y] 26)).alloc (.cells #[.int .i64 s, .int .i64 t] 74)).drew).drewN n) := fun n => below_drewN (two_below _ _ _).drew n
  have HGO := Hid.mk' hgo
  clear h hgo
  by_cases h1 : k = 1
  · subst h1
    have HF : Hid (fits 1 l y = !y) := rfl
    have HV : Hid (saidV 1 s t a len cap y = .iface 76 (.agg #[.int .i64 s, .int .i64 t, .slice a len cap])) := rfl
    go_enter Try.func29, Try.ntmps29
    go_wp2_with fail
    go_region
    go_wp2_with fail
    go_region
    go_wp2_with fail
    go_returns
    exact ⟨by rw [HF.out, HV.out]; rfl, HB.out.drew.drew⟩
  · have hk1 : (k == 1) = false := beq_eq_false_iff_ne.2 h1
    by_cases h2 : k = 2
    · subst h2
      have HF : Hid (fits 2 l y = ((len : Int) == 0)) := hie
      have HV : Hid (saidV 2 s t a len cap y = .iface 78 (.agg #[.int .i64 s, .int .i64 t, .bool y])) := rfl
      clear hie
      go_enter Try.func29, Try.ntmps29
      go_wp2_with fail
      go_region
      go_wp2_with fail
      go_returns
      exact ⟨by rw [HF.out, HV.out]; rfl, HB.out.drew⟩
    · have hk2 : (k == 2) = false := beq_eq_false_iff_ne.2 h2
      by_cases h3 : k = 3
      · subst h3
        have HF : Hid (fits 3 l y = ((len : Int) == 0)) := hie
        have HV : Hid (saidV 3 s t a len cap y = .iface 79 (.agg #[.int .i64 s, .int .i64 t, .bool y])) := rfl
        clear hie
        go_enter Try.func29, Try.ntmps29
        go_wp2_with fail
        go_region
        go_wp2_with fail
        go_returns
        exact ⟨by rw [HF.out, HV.out]; rfl, HB.out.drew⟩
      · have hk3 : (k == 3) = false := beq_eq_false_iff_ne.2 h3
        by_cases h4 : k = 4
        · subst h4
          have HV : Hid (saidV 4 s t a len cap y = .iface 81 (.agg #[.int .i64 s, .int .i64 t])) := rfl
          by_cases h0 : len = 0
          · have hd : ((len : Int) == 0) = true := by simp; omega
            have HF : Hid (fits 4 l y = !y) := by show (l.isEmpty && !y) = !y; rw [hie, hd, Bool.true_and]
            subst h0
            clear hie hd
            go_enter Try.func29, Try.ntmps29
            go_wp2_with fail
            go_region
            go_wp2_with fail
            go_quiet (fail)
            go_wp2_with fail
            go_returns
            exact ⟨by rw [HF.out, HV.out]; rfl, HGO.out _⟩
          · have hd : ((len : Int) == 0) = false := by simp; omega
            have HF : Hid (fits 4 l y = false) := by show (l.isEmpty && !y) = false; rw [hie, hd, Bool.false_and]
            clear hie
            go_enter Try.func29, Try.ntmps29
            go_wp2_with fail
            go_region
            go_wp2_with fail
            go_quiet (fail)
            go_wp2_with fail
            go_returns
            exact ⟨by rw [HF.out, HV.out]; rfl, HGO.out _⟩
        · have hk4 : (k == 4) = false := beq_eq_false_iff_ne.2 h4
          have HF : Hid (fits k l y = false) := by show _ = _; unfold fits; rw [if_neg h1, if_neg (by omega), if_neg h4]
          have HV : Hid (saidV k s t a len cap y = .nilIface) := by show _ = _; unfold saidV; rw [if_neg h1, if_neg h2, if_neg h3, if_neg h4]
          clear hie h1 h2 h3 h4
          go_enter Try.func29, Try.ntmps29
          go_wp2_with fail
          go_region
          go_wp2_with fail
          go_returns
          exact ⟨by rw [HF.out, HV.out]; rfl, HB.out.drew⟩

theorem ta_1_1 (v : Value) (w : World) : (Instr.typeAssert (.iface 76 v) 47 76 true).run Try.prog w = .ok (.tuple #[v, .bool true]) w := by kernel_rfl
theorem ta_2_1 (v : Value) (w : World) : (Instr.typeAssert (.iface 78 v) 47 76 true).run Try.prog w = .ok (.tuple #[.agg #[.int .i64 0, .int .i64 0, .slice none 0 0], .bool false]) w := by kernel_rfl
theorem ta_2_2 (v : Value) (w : World) : (Instr.typeAssert (.iface 78 v) 47 78 true).run Try.prog w = .ok (.tuple #[v, .bool true]) w := by kernel_rfl
theorem ta_3_1 (v : Value) (w : World) : (Instr.typeAssert (.iface 79 v) 47 76 true).run Try.prog w = .ok (.tuple #[.agg #[.int .i64 0, .int .i64 0, .slice none 0 0], .bool false]) w := by kernel_rfl
theorem ta_3_2 (v : Value) (w : World) : (Instr.typeAssert (.iface 79 v) 47 78 true).run Try.prog w = .ok (.tuple #[.agg #[.int .i64 0, .int .i64 0, .bool false], .bool false]) w := by kernel_rfl
theorem ta_3_3 (v : Value) (w : World) : (Instr.typeAssert (.iface 79 v) 47 79 true).run Try.prog w = .ok (.tuple #[v, .bool true]) w := by kernel_rfl
theorem ta_4_1 (v : Value) (w : World) : (Instr.typeAssert (.iface 81 v) 47 76 true).run Try.prog w = .ok (.tuple #[.agg #[.int .i64 0, .int .i64 0, .slice none 0 0], .bool false]) w := by kernel_rfl
theorem ta_4_2 (v : Value) (w : World) : (Instr.typeAssert (.iface 81 v) 47 78 true).run Try.prog w = .ok (.tuple #[.agg #[.int .i64 0, .int .i64 0, .bool false], .bool false]) w := by kernel_rfl
theorem ta_4_3 (v : Value) (w : World) : (Instr.typeAssert (.iface 81 v) 47 79 true).run Try.prog w = .ok (.tuple #[.agg #[.int .i64 0, .int .i64 0, .bool false], .bool false]) w := by kernel_rfl
theorem ta_4_4 (v : Value) (w : World) : (Instr.typeAssert (.iface 81 v) 47 81 true).run Try.prog w = .ok (.tuple #[v, .bool true]) w := by kernel_rfl

theorem place_yes {s t : Int} (h : 0 ≤ s ∧ s ≤ 7) : placeOk s t = (decide (1 ≤ t) && decide (t ≤ 1000000)) := by unfold placeOk; rw [decide_eq_true h, Bool.true_and]; exact Bool.decide_and _ _
theorem place_no {s t : Int} (h : ¬ (0 ≤ s ∧ s ≤ 7)) : placeOk s t = false := by unfold placeOk; rw [decide_eq_false h]; rfl
set_option maxRecDepth 100000 in
set_option maxHeartbeats 4000000 in
theorem i_saidOk1 (s t : Int) (a : Option Addr) (len cap : Nat) (l : List Od) (w : World) (h : SlO w a len l) (hks : ∀ p ∈ l, p.2.1.size ≤ 1099511627776) :
    Calls Try.prog 30 #[.iface 76 (.agg #[.int .i64 s, .int .i64 t, .slice a len cap])] w fun e w' => e = .returned (.bool (placeOk s t && opsOk l)) ∧ Below w.heap.size w w' := by
  have HO : Hid (∀ wx, Below w.heap.size w wx → Calls Try.prog 51 #[.slice a len cap] wx fun e w' => e = .returned (.bool (opsOk l)) ∧ Below wx.heap.size wx w') := fun wx hx => impl_opsOkA a len cap l wx (h.below hx) hks
  have HA := Hid.mk' (i_about s t)
  have hta := ta_1_1
  generalize opsOk l = K at *
  have hba : Below w.heap.size w (w.alloc (.cells #[.int .i64 s, .int .i64 t, .slice a len cap] 76)) := (Below.refl _ _).alloc (Nat.le_refl _) _
  cases K
  · go_enter Try.func30, Try.ntmps30
    go_wp2_with fail
    refine (HO.out _ hba).mono ?_
    rintro e w1 ⟨rfl, hb1⟩
    go_wp2_with fail
    go_ret
    exact ⟨ret_bool (by simp), hba.trans (hb1.mono hba.size)⟩
  · rw [Bool.and_true]
    go_enter Try.func30, Try.ntmps30
    go_wp2_with fail
    refine (HO.out _ hba).mono ?_
    rintro e w1 ⟨rfl, hb1⟩
    have hB1 := hba.trans (hb1.mono hba.size)
    clear hta HO hb1
    go_wp2_with fail
    refine (HA.out _).mono ?_
    rintro e w2 ⟨rfl, hb2⟩
    have hB2 := hB1.trans (hb2.mono hB1.size)
    have hB3 : Below w.heap.size w (w2.alloc (.cells #[.int .i64 s, .int .i64 t] 74)) := hB2.alloc hB2.size _
    have HI := Hid.mk' (i_shardIdOk s (w2.alloc (.cells #[.int .i64 s, .int .i64 t] 74)))
    clear HA hb2
    by_cases hs : 0 ≤ s ∧ s ≤ 7
    · have HP := Hid.mk' (place_yes (t := t) hs)
      rw [decide_eq_true hs] at HI
      clear hs
      by_cases ht1 : 1 ≤ t
      · by_cases ht2 : t ≤ 1000000
        all_goals
          go_wp2_with fail
          refine HI.out.mono ?_
          rintro e w3 ⟨rfl, hw3⟩
          replace hw3 := hw3.symm
          subst hw3
          go_wp2_with fail
          go_ret
          exact ⟨ret_bool (by rw [HP.out]; all_goals (simp <;> omega)), hB3⟩
      · go_wp2_with fail
        refine HI.out.mono ?_
        rintro e w3 ⟨rfl, hw3⟩
        replace hw3 := hw3.symm
        subst hw3
        go_wp2_with fail
        go_ret
        exact ⟨ret_bool (by rw [HP.out]; all_goals (simp <;> omega)), hB3⟩
    · have HP := Hid.mk' (place_no (t := t) hs)
      rw [decide_eq_false hs] at HI
      clear hs
      go_wp2_with fail
      refine HI.out.mono ?_
      rintro e w3 ⟨rfl, hw3⟩
      replace hw3 := hw3.symm
      subst hw3
      go_wp2_with fail
      go_ret
      exact ⟨ret_bool (by rw [HP.out]; all_goals rfl), hB3⟩
set_option maxRecDepth 100000 in
set_option maxHeartbeats 4000000 in
theorem i_saidOk2 (s t : Int) (y : Bool) (w : World) :
    Calls Try.prog 30 #[.iface 78 (.agg #[.int .i64 s, .int .i64 t, .bool y])] w fun e w' => e = .returned (.bool (placeOk s t)) ∧ Below w.heap.size w w' := by
  have HA := Hid.mk' (i_about s t)
  have hta := ta_2_1
  have hB1 : Below w.heap.size w (w.alloc (.cells #[.int .i64 0, .int .i64 0, .slice none 0 0] 76)) := (Below.refl _ _).alloc (Nat.le_refl _) _
  go_enter Try.func30, Try.ntmps30
  go_wp2_with fail
  refine (HA.out _).mono ?_
  rintro e w2 ⟨rfl, hb2⟩
  have hB2 := hB1.trans (hb2.mono hB1.size)
  have hB3 : Below w.heap.size w (w2.alloc (.cells #[.int .i64 s, .int .i64 t] 74)) := hB2.alloc hB2.size _
  have HI := Hid.mk' (i_shardIdOk s (w2.alloc (.cells #[.int .i64 s, .int .i64 t] 74)))
  clear HA hb2
  by_cases hs : 0 ≤ s ∧ s ≤ 7
  · have HP := Hid.mk' (place_yes (t := t) hs)
    rw [decide_eq_true hs] at HI
    clear hs
    by_cases ht1 : 1 ≤ t
    · by_cases ht2 : t ≤ 1000000
      all_goals
        go_wp2_with fail
        refine HI.out.mono ?_
        rintro e w3 ⟨rfl, hw3⟩
        replace hw3 := hw3.symm
        subst hw3
        go_wp2_with fail
        go_ret
        exact ⟨ret_bool (by rw [HP.out]; all_goals (simp <;> omega)), hB3⟩
    · go_wp2_with fail
      refine HI.out.mono ?_
      rintro e w3 ⟨rfl, hw3⟩
      replace hw3 := hw3.symm
      subst hw3
      go_wp2_with fail
      go_ret
      exact ⟨ret_bool (by rw [HP.out]; all_goals (simp <;> omega)), hB3⟩
  · have HP := Hid.mk' (place_no (t := t) hs)
    rw [decide_eq_false hs] at HI
    clear hs
    go_wp2_with fail
    refine HI.out.mono ?_
    rintro e w3 ⟨rfl, hw3⟩
    replace hw3 := hw3.symm
    subst hw3
    go_wp2_with fail
    go_ret
    exact ⟨ret_bool (by rw [HP.out]; all_goals rfl), hB3⟩
set_option maxRecDepth 100000 in
set_option maxHeartbeats 4000000 in
theorem i_saidOk3 (s t : Int) (y : Bool) (w : World) :
    Calls Try.prog 30 #[.iface 79 (.agg #[.int .i64 s, .int .i64 t, .bool y])] w fun e w' => e = .returned (.bool (placeOk s t)) ∧ Below w.heap.size w w' := by
  have HA := Hid.mk' (i_about s t)
  have hta := ta_3_1
  have hB1 : Below w.heap.size w (w.alloc (.cells #[.int .i64 0, .int .i64 0, .slice none 0 0] 76)) := (Below.refl _ _).alloc (Nat.le_refl _) _
  go_enter Try.func30, Try.ntmps30
  go_wp2_with fail
  refine (HA.out _).mono ?_
  rintro e w2 ⟨rfl, hb2⟩
  have hB2 := hB1.trans (hb2.mono hB1.size)
  have hB3 : Below w.heap.size w (w2.alloc (.cells #[.int .i64 s, .int .i64 t] 74)) := hB2.alloc hB2.size _
  have HI := Hid.mk' (i_shardIdOk s (w2.alloc (.cells #[.int .i64 s, .int .i64 t] 74)))
  clear HA hb2
  by_cases hs : 0 ≤ s ∧ s ≤ 7
  · have HP := Hid.mk' (place_yes (t := t) hs)
    rw [decide_eq_true hs] at HI
    clear hs
    by_cases ht1 : 1 ≤ t
    · by_cases ht2 : t ≤ 1000000
      all_goals
        go_wp2_with fail
        refine HI.out.mono ?_
        rintro e w3 ⟨rfl, hw3⟩
        replace hw3 := hw3.symm
        subst hw3
        go_wp2_with fail
        go_ret
        exact ⟨ret_bool (by rw [HP.out]; all_goals (simp <;> omega)), hB3⟩
    · go_wp2_with fail
      refine HI.out.mono ?_
      rintro e w3 ⟨rfl, hw3⟩
      replace hw3 := hw3.symm
      subst hw3
      go_wp2_with fail
      go_ret
      exact ⟨ret_bool (by rw [HP.out]; all_goals (simp <;> omega)), hB3⟩
  · have HP := Hid.mk' (place_no (t := t) hs)
    rw [decide_eq_false hs] at HI
    clear hs
    go_wp2_with fail
    refine HI.out.mono ?_
    rintro e w3 ⟨rfl, hw3⟩
    replace hw3 := hw3.symm
    subst hw3
    go_wp2_with fail
    go_ret
    exact ⟨ret_bool (by rw [HP.out]; all_goals rfl), hB3⟩
set_option maxRecDepth 100000 in
set_option maxHeartbeats 4000000 in
theorem i_saidOk4 (s t : Int) (y : Bool) (w : World) :
    Calls Try.prog 30 #[.iface 81 (.agg #[.int .i64 s, .int .i64 t])] w fun e w' => e = .returned (.bool (placeOk s t)) ∧ Below w.heap.size w w' := by
  have HA := Hid.mk' (i_about s t)
  have hta := ta_4_1
  have hB1 : Below w.heap.size w (w.alloc (.cells #[.int .i64 0, .int .i64 0, .slice none 0 0] 76)) := (Below.refl _ _).alloc (Nat.le_refl _) _
  go_enter Try.func30, Try.ntmps30
  go_wp2_with fail
  refine (HA.out _).mono ?_
  rintro e w2 ⟨rfl, hb2⟩
  have hB2 := hB1.trans (hb2.mono hB1.size)
  have hB3 : Below w.heap.size w (w2.alloc (.cells #[.int .i64 s, .int .i64 t] 74)) := hB2.alloc hB2.size _
  have HI := Hid.mk' (i_shardIdOk s (w2.alloc (.cells #[.int .i64 s, .int .i64 t] 74)))
  clear HA hb2
  by_cases hs : 0 ≤ s ∧ s ≤ 7
  · have HP := Hid.mk' (place_yes (t := t) hs)
    rw [decide_eq_true hs] at HI
    clear hs
    by_cases ht1 : 1 ≤ t
    · by_cases ht2 : t ≤ 1000000
      all_goals
        go_wp2_with fail
        refine HI.out.mono ?_
        rintro e w3 ⟨rfl, hw3⟩
        replace hw3 := hw3.symm
        subst hw3
        go_wp2_with fail
        go_ret
        exact ⟨ret_bool (by rw [HP.out]; all_goals (simp <;> omega)), hB3⟩
    · go_wp2_with fail
      refine HI.out.mono ?_
      rintro e w3 ⟨rfl, hw3⟩
      replace hw3 := hw3.symm
      subst hw3
      go_wp2_with fail
      go_ret
      exact ⟨ret_bool (by rw [HP.out]; all_goals (simp <;> omega)), hB3⟩
  · have HP := Hid.mk' (place_no (t := t) hs)
    rw [decide_eq_false hs] at HI
    clear hs
    go_wp2_with fail
    refine HI.out.mono ?_
    rintro e w3 ⟨rfl, hw3⟩
    replace hw3 := hw3.symm
    subst hw3
    go_wp2_with fail
    go_ret
    exact ⟨ret_bool (by rw [HP.out]; all_goals rfl), hB3⟩

theorem i_saidOkA (k s t : Int) (a : Option Addr) (len cap : Nat) (l : List Od) (y : Bool) (w : World) (hf : fits k l y = true) (h : SlO w a len l) (hks : ∀ p ∈ l, p.2.1.size ≤ 1099511627776) :
    Calls Try.prog 30 #[saidV k s t a len cap y] w fun e w' => e = .returned (.bool (wordOk (k, s, t, l, y))) ∧ Below w.heap.size w w' := by
  have hw : wordOk (k, s, t, l, y) = (placeOk s t && if k = 1 then opsOk l else true) := by show (placeOk s t && kindOk k l y) = _; rw [fits_ok, hf, Bool.true_and]
  rw [hw]
  have hk : k = 1 ∨ k = 2 ∨ k = 3 ∨ k = 4 := by
    unfold fits at hf
    by_cases h1 : k = 1
    · exact .inl h1
    · by_cases h2 : k = 2 ∨ k = 3
      · rcases h2 with h2 | h2
        · exact .inr (.inl h2)
        · exact .inr (.inr (.inl h2))
      · by_cases h4 : k = 4
        · exact .inr (.inr (.inr h4))
        · rw [if_neg h1, if_neg h2, if_neg h4] at hf; cases hf
  rcases hk with rfl | rfl | rfl | rfl
  · exact i_saidOk1 s t a len cap l w h hks
  · refine (i_saidOk2 s t y w).mono ?_
    rintro e w' ⟨rfl, hb⟩
    exact ⟨by simp, hb⟩
  · refine (i_saidOk3 s t y w).mono ?_
    rintro e w' ⟨rfl, hb⟩
    exact ⟨by simp, hb⟩
  · refine (i_saidOk4 s t y w).mono ?_
    rintro e w' ⟨rfl, hb⟩
    exact ⟨by simp, hb⟩
theorem fits_no {k s t : Int} {l : List Od} {y : Bool} (hf : fits k l y = false) : wordOk (k, s, t, l, y) = false := by show (placeOk s t && kindOk k l y) = _; rw [fits_ok, hf, Bool.false_and, Bool.and_false]
set_option maxRecDepth 100000 in
set_option maxHeartbeats 4000000 in
theorem impl_wordOk (k s t : Int) (a : Option Addr) (len cap : Nat) (l : List Od) (y : Bool) (w : World) (h : SlO w a len l) (hks : ∀ p ∈ l, p.2.1.size ≤ 1099511627776) :
    Calls Try.prog 15 #[wdV k s t (.slice a len cap) y] w fun e w' => e = .returned (.bool (wordOk (k, s, t, l, y))) ∧ Below w.heap.size w w' := by
  obtain ⟨W, hW⟩ : ∃ W, W = w.alloc (.cells #[.int .i64 k, .int .i64 s, .int .i64 t, .slice a len cap, .bool y] 26) := ⟨_, rfl⟩
  have hba : Below w.heap.size w W := by rw [hW]; exact (Below.refl _ _).alloc (Nat.le_refl _) _
  have HS := Hid.mk' (i_saidOf k s t a len cap l y W (h.below hba))
  have HW := Hid.mk' hW.symm
  clear hW
  cases hf : fits k l y
  · have HF := Hid.mk' (fits_no (s := s) (t := t) hf)
    rw [hf] at HS
    clear hf
    generalize saidV k s t a len cap y = V at *
    go_enter Try.func15, Try.ntmps15
    go_wp2_with fail
    rw [HW.out]
    refine HS.out.mono ?_
    rintro e w1 ⟨rfl, hb1⟩
    go_wp2_with fail
    go_ret
    exact ⟨ret_bool HF.out.symm, hba.trans (hb1.mono hba.size)⟩
  · have HO : Hid (∀ wx, Below w.heap.size w wx → Calls Try.prog 30 #[saidV k s t a len cap y] wx fun e w' => e = .returned (.bool (wordOk (k, s, t, l, y))) ∧ Below wx.heap.size wx w') := fun wx hx => i_saidOkA k s t a len cap l y wx hf (h.below hx) hks
    rw [hf] at HS
    clear hf
    generalize saidV k s t a len cap y = V at *
    generalize wordOk (k, s, t, l, y) = R at *
    go_enter Try.func15, Try.ntmps15
    go_wp2_with fail
    rw [HW.out]
    refine HS.out.mono ?_
    rintro e w1 ⟨rfl, hb1⟩
    have hB1 := hba.trans (hb1.mono hba.size)
    go_wp2_with fail
    refine (HO.out _ hB1).mono ?_
    rintro e w2 ⟨rfl, hb2⟩
    go_wp2_with fail
    go_ret
    exact ⟨rfl, hB1.trans (hb2.mono hB1.size)⟩
end Go.Proofs.Ytjodbijcgcjndaa.wds
