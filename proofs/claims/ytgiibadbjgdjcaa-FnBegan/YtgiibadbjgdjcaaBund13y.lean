/- The program's words: what is said within, and what is right. The laws' helpers for rows of words: alike. The laws' marks on rows of words: whether they are held. The laws' marks on rows of words. How many marks the words of all jobs take. -/
import Derived.Test.YtgiibadbjgdjcaaBund12bb
import Derived.Test.YtgiibadbjgdjcaaBund12ag
import Derived.Handy
import Derived.BigQuiet
import Derived.Test.YtgiibadbjgdjcaaBund13a
import Derived.Test.YtgiibadbjgdjcaaBund12ar
import Derived.Test.YtgiibadbjgdjcaaBund12bd
import Derived.Test.YtgiibadbjgdjcaaBund13d
namespace Go.Proofs.Ytgiibadbjgdjcaa.wds
open Go Go.RowKit Go.Proofs.Ytgiibadbjgdjcaa.base Go.Proofs.Ytgiibadbjgdjcaa.pairs Go.Proofs.Ytgiibadbjgdjcaa.ords Go.Proofs.Ytgiibadbjgdjcaa.putnum Go.Proofs.Ytgiibadbjgdjcaa.puttext Go.Proofs.Ytgiibadbjgdjcaa.getnum Go.Proofs.Ytgiibadbjgdjcaa.gettext Go.Proofs.Ytgiibadbjgdjcaa.gettexts
set_option linter.unusedVariables false
set_option linter.unusedSimpArgs false

/-- what a word is within, and whether it has no more than its kind names -/
def saidV (k s t : Int) (a : Option Addr) (len cap : Nat) (y : Bool) : Value := if k = 1 then .iface 123 (.agg #[.int .i64 s, .int .i64 t, .slice a len cap]) else if k = 2 then .iface 125 (.agg #[.int .i64 s, .int .i64 t, .bool y]) else if k = 3 then .iface 126 (.agg #[.int .i64 s, .int .i64 t, .bool y]) else if k = 4 then .iface 128 (.agg #[.int .i64 s, .int .i64 t]) else .nilIface
def fits (k : Int) (l : List Od) (y : Bool) : Bool := if k = 1 then !y else if k = 2 ∨ k = 3 then l.isEmpty else if k = 4 then l.isEmpty && !y else false
theorem two_below (w : World) (o o2 : Obj) : Below w.heap.size w ((w.alloc o).alloc o2) := ((Below.refl _ _).alloc (Nat.le_refl _) _).alloc (by simp) _
theorem fits_ok (k : Int) (l : List Od) (y : Bool) : kindOk k l y = (fits k l y && (if k = 1 then opsOk l else true)) := by
  unfold kindOk fits
  by_cases h1 : k = 1
  · rw [if_pos h1, if_pos h1, if_pos h1, Bool.and_comm]
  · rw [if_neg h1, if_neg h1, if_neg h1, Bool.and_true]

theorem i_about (s t : Int) (w : World) :
    Calls Try.prog 148 #[.agg #[.int .i64 s, .int .i64 t]] w fun e w' => e = .returned (.agg #[.int .i64 s, .int .i64 t]) ∧ Below w.heap.size w w' := by
  go_enter Try.func148, Try.ntmps148
  go_wp2_with fail
  go_returns
  exact ⟨rfl, two_below _ _ _⟩
theorem i_shardIdOk (s : Int) (w : World) : Calls Try.prog 89 #[.int .i64 s] w fun e w' => e = .returned (.bool (decide (0 ≤ s ∧ s ≤ 7))) ∧ w' = w := by
  by_cases h1 : 0 ≤ s
  · by_cases h2 : s ≤ 7
    · have H3 : Hid (decide (0 ≤ s ∧ s ≤ 7) = true) := decide_eq_true ⟨h1, h2⟩
      go_enter Try.func89, Try.ntmps89
      go_wp2_with fail
      go_ret
      exact ⟨ret_bool (by simp; omega), rfl⟩
    · have H3 : Hid (decide (0 ≤ s ∧ s ≤ 7) = false) := decide_eq_false (fun h => h2 h.2)
      go_enter Try.func89, Try.ntmps89
      go_wp2_with fail
      go_ret
      exact ⟨ret_bool (by simp; omega), rfl⟩
  · have H3 : Hid (decide (0 ≤ s ∧ s ≤ 7) = false) := decide_eq_false (fun h => h1 h.1)
    go_enter Try.func89, Try.ntmps89
    go_wp2_with fail
    go_ret
    exact ⟨ret_bool (by simp; omega), rfl⟩
set_option maxRecDepth 100000 in
set_option maxHeartbeats 4000000 in
theorem i_saidOf (k s t : Int) (a : Option Addr) (len cap : Nat) (l : List Od) (y : Bool) (w : World) (h : SlO w a len l) :
    Calls Try.prog 60 #[wdV k s t (.slice a len cap) y] w fun e w' => e = .returned (.tuple #[saidV k s t a len cap y, .bool (fits k l y)]) ∧ Below w.heap.size w w' := by
  have hm := h.2.1
  have hl := h.1
  unfold maxLen at hm
  have hie : l.isEmpty = ((len : Int) == 0) := by
    rw [← hl]
    cases l with
    | nil => rfl
    | cons x l => simp [Int.natCast_add]; omega
  have HB := Hid.mk' (two_below w (.cells #[.int .i64 k, .int .i64 s, .int .i64 t, .slice a len cap, .bool y] 39) (.cells #[.int .i64 s, .int .i64 t] 121))
  have hgo : ∀ n, Below w.heap.size w ((((w.alloc (.cells #[.int .i64 k, .int .i64 s, .int .i64 t, .slice a len cap, .bool y] 39)).alloc (.cells #[.int .i64 s, .int .i64 t] 121)).drew).drewN n) := fun n => below_drewN (two_below _ _ _).drew n
  have HGO := Hid.mk' hgo
  clear h hgo
  by_cases h1 : k = 1
  · subst h1
    have HF : Hid (fits 1 l y = !y) := rfl
    have HV : Hid (saidV 1 s t a len cap y = .iface 123 (.agg #[.int .i64 s, .int .i64 t, .slice a len cap])) := rfl
    go_enter Try.func60, Try.ntmps60
    go_wp2_with fail
    go_region
    go_wp2_with fail
    go_region
    go_wp2_with fail
    go_returns
    exact ⟨by rw [HF.out, HV.out]; rfl, HB.out.drew.drew⟩
  · have hk1 : (k == 1) = false := beq_eq_false_iff_ne.2 h1
    by_cases h2 : k = 2
    · subst h2
      have HF : Hid (fits 2 l y = ((len : Int) == 0)) := hie
      have HV : Hid (saidV 2 s t a len cap y = .iface 125 (.agg #[.int .i64 s, .int .i64 t, .bool y])) := rfl
      clear hie
      go_enter Try.func60, Try.ntmps60
      go_wp2_with fail
      go_region
      go_wp2_with fail
      go_returns
      exact ⟨by rw [HF.out, HV.out]; rfl, HB.out.drew⟩
    · have hk2 : (k == 2) = false := beq_eq_false_iff_ne.2 h2
      by_cases h3 : k = 3
      · subst h3
        have HF : Hid (fits 3 l y = ((len : Int) == 0)) := hie
        have HV : Hid (saidV 3 s t a len cap y = .iface 126 (.agg #[.int .i64 s, .int .i64 t, .bool y])) := rfl
        clear hie
        go_enter Try.func60, Try.ntmps60
        go_wp2_with fail
        go_region
        go_wp2_with fail
        go_returns
        exact ⟨by rw [HF.out, HV.out]; rfl, HB.out.drew⟩
      · have hk3 : (k == 3) = false := beq_eq_false_iff_ne.2 h3
        by_cases h4 : k = 4
        · subst h4
          have HV : Hid (saidV 4 s t a len cap y = .iface 128 (.agg #[.int .i64 s, .int .i64 t])) := rfl
          by_cases h0 : len = 0
          · have hd : ((len : Int) == 0) = true := by simp; omega
            have HF : Hid (fits 4 l y = !y) := by show (l.isEmpty && !y) = !y; rw [hie, hd, Bool.true_and]
            subst h0
            clear hie hd
            go_enter Try.func60, Try.ntmps60
            go_wp2_with fail
            go_region
            go_wp2_with fail
            go_quiet (fail)
            go_wp2_with fail
            go_returns
            exact ⟨by rw [HF.out, HV.out]; rfl, HGO.out _⟩
          · have hd : ((len : Int) == 0) = false := by simp; omega
            have HF : Hid (fits 4 l y = false) := by show (l.isEmpty && !y) = false; rw [hie, hd, Bool.false_and]
            clear hie
            go_enter Try.func60, Try.ntmps60
            go_wp2_with fail
            go_region
            go_wp2_with fail
            go_quiet (fail)
            go_wp2_with fail
            go_returns
            exact ⟨by rw [HF.out, HV.out]; rfl, HGO.out _⟩
        · have hk4 : (k == 4) = false := beq_eq_false_iff_ne.2 h4
          have HF : Hid (fits k l y = false) := by show _ = _; unfold fits; rw [if_neg h1, if_neg (by omega), if_neg h4]
          have HV : Hid (saidV k s t a len cap y = .nilIface) := by show _ = _; unfold saidV; rw [if_neg h1, if_neg h2, if_neg h3, if_neg h4]
          clear hie h1 h2 h3 h4
          go_enter Try.func60, Try.ntmps60
          go_wp2_with fail
          go_region
          go_wp2_with fail
          go_returns
          exact ⟨by rw [HF.out, HV.out]; rfl, HB.out.drew⟩

theorem ta_1_1 (v : Value) (w : World) : (Instr.typeAssert (.iface 123 v) 92 123 true).run Try.prog w = .ok (.tuple #[v, .bool true]) w := by kernel_rfl
theorem ta_2_1 (v : Value) (w : World) : (Instr.typeAssert (.iface 125 v) 92 123 true).run Try.prog w = .ok (.tuple #[.agg #[.int .i64 0, .int .i64 0, .slice none 0 0], .bool false]) w := by kernel_rfl
theorem ta_2_2 (v : Value) (w : World) : (Instr.typeAssert (.iface 125 v) 92 125 true).run Try.prog w = .ok (.tuple #[v, .bool true]) w := by kernel_rfl
theorem ta_3_1 (v : Value) (w : World) : (Instr.typeAssert (.iface 126 v) 92 123 true).run Try.prog w = .ok (.tuple #[.agg #[.int .i64 0, .int .i64 0, .slice none 0 0], .bool false]) w := by kernel_rfl
theorem ta_3_2 (v : Value) (w : World) : (Instr.typeAssert (.iface 126 v) 92 125 true).run Try.prog w = .ok (.tuple #[.agg #[.int .i64 0, .int .i64 0, .bool false], .bool false]) w := by kernel_rfl
theorem ta_3_3 (v : Value) (w : World) : (Instr.typeAssert (.iface 126 v) 92 126 true).run Try.prog w = .ok (.tuple #[v, .bool true]) w := by kernel_rfl
theorem ta_4_1 (v : Value) (w : World) : (Instr.typeAssert (.iface 128 v) 92 123 true).run Try.prog w = .ok (.tuple #[.agg #[.int .i64 0, .int .i64 0, .slice none 0 0], .bool false]) w := by kernel_rfl
theorem ta_4_2 (v : Value) (w : World) : (Instr.typeAssert (.iface 128 v) 92 125 true).run Try.prog w = .ok (.tuple #[.agg #[.int .i64 0, .int .i64 0, .bool false], .bool false]) w := by kernel_rfl
theorem ta_4_3 (v : Value) (w : World) : (Instr.typeAssert (.iface 128 v) 92 126 true).run Try.prog w = .ok (.tuple #[.agg #[.int .i64 0, .int .i64 0, .bool false], .bool false]) w := by kernel_rfl
theorem ta_4_4 (v : Value) (w : World) : (Instr.typeAssert (.iface 128 v) 92 128 true).run Try.prog w = .ok (.tuple #[v, .bool true]) w := by kernel_rfl

theorem place_yes {s t : Int} (h : 0 ≤ s ∧ s ≤ 7) : placeOk s t = (decide (1 ≤ t) && decide (t ≤ 1000000)) := by unfold placeOk; rw [decide_eq_true h, Bool.true_and]; exact Bool.decide_and _ _
theorem place_no {s t : Int} (h : ¬ (0 ≤ s ∧ s ≤ 7)) : placeOk s t = false := by unfold placeOk; rw [decide_eq_false h]; rfl
set_option maxRecDepth 100000 in
set_option maxHeartbeats 4000000 in
theorem i_saidOk1 (s t : Int) (a : Option Addr) (len cap : Nat) (l : List Od) (w : World) (h : SlO w a len l) (hks : ∀ p ∈ l, p.2.1.size ≤ 1099511627776) :
    Calls Try.prog 61 #[.iface 123 (.agg #[.int .i64 s, .int .i64 t, .slice a len cap])] w fun e w' => e = .returned (.bool (placeOk s t && opsOk l)) ∧ Below w.heap.size w w' := by
  have HO : Hid (∀ wx, Below w.heap.size w wx → Calls Try.prog 35 #[.slice a len cap] wx fun e w' => e = .returned (.bool (opsOk l)) ∧ Below wx.heap.size wx w') := fun wx hx => impl_opsOkA a len cap l wx (h.below hx) hks
  have HA := Hid.mk' (i_about s t)
  have hta := ta_1_1
  generalize opsOk l = K at *
  have hba : Below w.heap.size w (w.alloc (.cells #[.int .i64 s, .int .i64 t, .slice a len cap] 123)) := (Below.refl _ _).alloc (Nat.le_refl _) _
  cases K
  · go_enter Try.func61, Try.ntmps61
    go_wp2_with fail
    refine (HO.out _ hba).mono ?_
    rintro e w1 ⟨rfl, hb1⟩
    go_wp2_with fail
    go_ret
    exact ⟨ret_bool (by simp), hba.trans (hb1.mono hba.size)⟩
  · rw [Bool.and_true]
    go_enter Try.func61, Try.ntmps61
    go_wp2_with fail
    refine (HO.out _ hba).mono ?_
    rintro e w1 ⟨rfl, hb1⟩
    have hB1 := hba.trans (hb1.mono hba.size)
    clear hta HO hb1
    go_wp2_with fail
    refine (HA.out _).mono ?_
    rintro e w2 ⟨rfl, hb2⟩
    have hB2 := hB1.trans (hb2.mono hB1.size)
    have hB3 : Below w.heap.size w (w2.alloc (.cells #[.int .i64 s, .int .i64 t] 121)) := hB2.alloc hB2.size _
    have HI := Hid.mk' (i_shardIdOk s (w2.alloc (.cells #[.int .i64 s, .int .i64 t] 121)))
    clear HA hb2
    by_cases hs : 0 ≤ s ∧ s ≤ 7
    · have HP := Hid.mk' (place_yes (t := t) hs)
      rw [decide_eq_true hs] at HI
      clear hs
      by_cases ht1 : 1 ≤ t
      · by_cases ht2 : t ≤ 1000000
        all_goals
          go_wp2_with fail
          refine HI.out.mono ?_
          rintro e w3 ⟨rfl, hw3⟩
          replace hw3 := hw3.symm
          subst hw3
          go_wp2_with fail
          go_ret
          exact ⟨ret_bool (by rw [HP.out]; all_goals (simp <;> omega)), hB3⟩
      · go_wp2_with fail
        refine HI.out.mono ?_
        rintro e w3 ⟨rfl, hw3⟩
        replace hw3 := hw3.symm
        subst hw3
        go_wp2_with fail
        go_ret
        exact ⟨ret_bool (by rw [HP.out]; all_goals (simp <;> omega)), hB3⟩
    · have HP := Hid.mk' (place_no (t := t) hs)
      rw [decide_eq_false hs] at HI
      clear hs
      go_wp2_with fail
      refine HI.out.mono ?_
      rintro e w3 ⟨rfl, hw3⟩
      replace hw3 := hw3.symm
      subst hw3
      go_wp2_with fail
      go_ret
      exact ⟨ret_bool (by rw [HP.out]; all_goals rfl), hB3⟩
set_option maxRecDepth 100000 in
set_option maxHeartbeats 4000000 in
theorem i_saidOk2 (s t : Int) (y : Bool) (w : World) :
    Calls Try.prog 61 #[.iface 125 (.agg #[.int .i64 s, .int .i64 t, .bool y])] w fun e w' => e = .returned (.bool (placeOk s t)) ∧ Below w.heap.size w w' := by
  have HA := Hid.mk' (i_about s t)
  have hta := ta_2_1
  have hB1 : Below w.heap.size w (w.alloc (.cells #[.int .i64 0, .int .i64 0, .slice none 0 0] 123)) := (Below.refl _ _).alloc (Nat.le_refl _) _
  go_enter Try.func61, Try.ntmps61
  go_wp2_with fail
  refine (HA.out _).mono ?_
  rintro e w2 ⟨rfl, hb2⟩
  have hB2 := hB1.trans (hb2.mono hB1.size)
  have hB3 : Below w.heap.size w (w2.alloc (.cells #[.int .i64 s, .int .i64 t] 121)) := hB2.alloc hB2.size _
  have HI := Hid.mk' (i_shardIdOk s (w2.alloc (.cells #[.int .i64 s, .int .i64 t] 121)))
  clear HA hb2
  by_cases hs : 0 ≤ s ∧ s ≤ 7
  · have HP := Hid.mk' (place_yes (t := t) hs)
    rw [decide_eq_true hs] at HI
    clear hs
    by_cases ht1 : 1 ≤ t
    · by_cases ht2 : t ≤ 1000000
      all_goals
        go_wp2_with fail
        refine HI.out.mono ?_
        rintro e w3 ⟨rfl, hw3⟩
        replace hw3 := hw3.symm
        subst hw3
        go_wp2_with fail
        go_ret
        exact ⟨ret_bool (by rw [HP.out]; all_goals (simp <;> omega)), hB3⟩
    · go_wp2_with fail
      refine HI.out.mono ?_
      rintro e w3 ⟨rfl, hw3⟩
      replace hw3 := hw3.symm
      subst hw3
      go_wp2_with fail
      go_ret
      exact ⟨ret_bool (by rw [HP.out]; all_goals (simp <;> omega)), hB3⟩
  · have HP := Hid.mk' (place_no (t := t) hs)
    rw [decide_eq_false hs] at HI
    clear hs
    go_wp2_with fail
    refine HI.out.mono ?_
    rintro e w3 ⟨rfl, hw3⟩
    replace hw3 := hw3.symm
    subst hw3
    go_wp2_with fail
    go_ret
    exact ⟨ret_bool (by rw [HP.out]; all_goals rfl), hB3⟩
set_option maxRecDepth 100000 in
set_option maxHeartbeats 4000000 in
theorem i_saidOk3 (s t : Int) (y : Bool) (w : World) :
    Calls Try.prog 61 #[.iface 126 (.agg #[.int .i64 s, .int .i64 t, .bool y])] w fun e w' => e = .returned (.bool (placeOk s t)) ∧ Below w.heap.size w w' := by
  have HA := Hid.mk' (i_about s t)
  have hta := ta_3_1
  have hB1 : Below w.heap.size w (w.alloc (.cells #[.int .i64 0, .int .i64 0, .slice none 0 0] 123)) := (Below.refl _ _).alloc (Nat.le_refl _) _
  go_enter Try.func61, Try.ntmps61
  go_wp2_with fail
  refine (HA.out _).mono ?_
  rintro e w2 ⟨rfl, hb2⟩
  have hB2 := hB1.trans (hb2.mono hB1.size)
  have hB3 : Below w.heap.size w (w2.alloc (.cells #[.int .i64 s, .int .i64 t] 121)) := hB2.alloc hB2.size _
  have HI := Hid.mk' (i_shardIdOk s (w2.alloc (.cells #[.int .i64 s, .int .i64 t] 121)))
  clear HA hb2
  by_cases hs : 0 ≤ s ∧ s ≤ 7
  · have HP := Hid.mk' (place_yes (t := t) hs)
    rw [decide_eq_true hs] at HI
    clear hs
    by_cases ht1 : 1 ≤ t
    · by_cases ht2 : t ≤ 1000000
      all_goals
        go_wp2_with fail
        refine HI.out.mono ?_
        rintro e w3 ⟨rfl, hw3⟩
        replace hw3 := hw3.symm
        subst hw3
        go_wp2_with fail
        go_ret
        exact ⟨ret_bool (by rw [HP.out]; all_goals (simp <;> omega)), hB3⟩
    · go_wp2_with fail
      refine HI.out.mono ?_
      rintro e w3 ⟨rfl, hw3⟩
      replace hw3 := hw3.symm
      subst hw3
      go_wp2_with fail
      go_ret
      exact ⟨ret_bool (by rw [HP.out]; all_goals (simp <;> omega)), hB3⟩
  · have HP := Hid.mk' (place_no (t := t) hs)
    rw [decide_eq_false hs] at HI
    clear hs
    go_wp2_with fail
    refine HI.out.mono ?_
    rintro e w3 ⟨rfl, hw3⟩
    replace hw3 := hw3.symm
    subst hw3
    go_wp2_with fail
    go_ret
    exact ⟨ret_bool (by rw [HP.out]; all_goals rfl), hB3⟩
set_option maxRecDepth 100000 in
set_option maxHeartbeats 4000000 in
theorem i_saidOk4 (s t : Int) (y : Bool) (w : World) :
    Calls Try.prog 61 #[.iface 128 (.agg #[.int .i64 s, .int .i64 t])] w fun e w' => e = .returned (.bool (placeOk s t)) ∧ Below w.heap.size w w' := by
  have HA := Hid.mk' (i_about s t)
  have hta := ta_4_1
  have hB1 : Below w.heap.size w (w.alloc (.cells #[.int .i64 0, .int .i64 0, .slice none 0 0] 123)) := (Below.refl _ _).alloc (Nat.le_refl _) _
  go_enter Try.func61, Try.ntmps61
  go_wp2_with fail
  refine (HA.out _).mono ?_
  rintro e w2 ⟨rfl, hb2⟩
  have hB2 := hB1.trans (hb2.mono hB1.size)
  have hB3 : Below w.heap.size w (w2.alloc (.cells #[.int .i64 s, .int .i64 t] 121)) := hB2.alloc hB2.size _
  have HI := Hid.mk' (i_shardIdOk s (w2.alloc (.cells #[.int .i64 s, .int .i64 t] 121)))
  clear HA hb2
  by_cases hs : 0 ≤ s ∧ s ≤ 7
  · have HP := Hid.mk' (place_yes (t := t) hs)
    rw [decide_eq_true hs] at HI
    clear hs
    by_cases ht1 : 1 ≤ t
    · by_cases ht2 : t ≤ 1000000
      all_goals
        go_wp2_with fail
        refine HI.out.mono ?_
        rintro e w3 ⟨rfl, hw3⟩
        replace hw3 := hw3.symm
        subst hw3
        go_wp2_with fail
        go_ret
        exact ⟨ret_bool (by rw [HP.out]; all_goals (simp <;> omega)), hB3⟩
    · go_wp2_with fail
      refine HI.out.mono ?_
      rintro e w3 ⟨rfl, hw3⟩
      replace hw3 := hw3.symm
      subst hw3
      go_wp2_with fail
      go_ret
      exact ⟨ret_bool (by rw [HP.out]; all_goals (simp <;> omega)), hB3⟩
  · have HP := Hid.mk' (place_no (t := t) hs)
    rw [decide_eq_false hs] at HI
    clear hs
    go_wp2_with fail
    refine HI.out.mono ?_
    rintro e w3 ⟨rfl, hw3⟩
    replace hw3 := hw3.symm
    subst hw3
    go_wp2_with fail
    go_ret
    exact ⟨ret_bool (by rw [HP.out]; all_goals rfl), hB3⟩

theorem i_saidOkA (k s t : Int) (a : Option Addr) (len cap : Nat) (l : List Od) (y : Bool) (w : World) (hf : fits k l y = true) (h : SlO w a len l) (hks : ∀ p ∈ l, p.2.1.size ≤ 1099511627776) :
    Calls Try.prog 61 #[saidV k s t a len cap y] w fun e w' => e = .returned (.bool (wordOk (k, s, t, l, y))) ∧ Below w.heap.size w w' := by
  have hw : wordOk (k, s, t, l, y) = (placeOk s t && if k = 1 then opsOk l else true) := by show (placeOk s t && kindOk k l y) = _; rw [fits_ok, hf, Bool.true_and]
  rw [hw]
  have hk : k = 1 ∨ k = 2 ∨ k = 3 ∨ k = 4 := by
    unfold fits at hf
    by_cases h1 : k = 1
    · exact .inl h1
    · by_cases h2 : k = 2 ∨ k = 3
      · rcases h2 with h2 | h2
        · exact .inr (.inl h2)
        · exact .inr (.inr (.inl h2))
      · by_cases h4 : k = 4
        · exact .inr (.inr (.inr h4))
        · rw [if_neg h1, if_neg h2, if_neg h4] at hf; cases hf
  rcases hk with rfl | rfl | rfl | rfl
  · exact i_saidOk1 s t a len cap l w h hks
  · refine (i_saidOk2 s t y w).mono ?_
    rintro e w' ⟨rfl, hb⟩
    exact ⟨by simp, hb⟩
  · refine (i_saidOk3 s t y w).mono ?_
    rintro e w' ⟨rfl, hb⟩
    exact ⟨by simp, hb⟩
  · refine (i_saidOk4 s t y w).mono ?_
    rintro e w' ⟨rfl, hb⟩
    exact ⟨by simp, hb⟩
theorem fits_no {k s t : Int} {l : List Od} {y : Bool} (hf : fits k l y = false) : wordOk (k, s, t, l, y) = false := by show (placeOk s t && kindOk k l y) = _; rw [fits_ok, hf, Bool.false_and, Bool.and_false]
set_option maxRecDepth 100000 in
set_option maxHeartbeats 4000000 in
theorem impl_wordOk (k s t : Int) (a : Option Addr) (len cap : Nat) (l : List Od) (y : Bool) (w : World) (h : SlO w a len l) (hks : ∀ p ∈ l, p.2.1.size ≤ 1099511627776) :
    Calls Try.prog 29 #[wdV k s t (.slice a len cap) y] w fun e w' => e = .returned (.bool (wordOk (k, s, t, l, y))) ∧ Below w.heap.size w w' := by
  obtain ⟨W, hW⟩ : ∃ W, W = w.alloc (.cells #[.int .i64 k, .int .i64 s, .int .i64 t, .slice a len cap, .bool y] 39) := ⟨_, rfl⟩
  have hba : Below w.heap.size w W := by rw [hW]; exact (Below.refl _ _).alloc (Nat.le_refl _) _
  have HS := Hid.mk' (i_saidOf k s t a len cap l y W (h.below hba))
  have HW := Hid.mk' hW.symm
  clear hW
  cases hf : fits k l y
  · have HF := Hid.mk' (fits_no (s := s) (t := t) hf)
    rw [hf] at HS
    clear hf
    generalize saidV k s t a len cap y = V at *
    go_enter Try.func29, Try.ntmps29
    go_wp2_with fail
    rw [HW.out]
    refine HS.out.mono ?_
    rintro e w1 ⟨rfl, hb1⟩
    go_wp2_with fail
    go_ret
    exact ⟨ret_bool HF.out.symm, hba.trans (hb1.mono hba.size)⟩
  · have HO : Hid (∀ wx, Below w.heap.size w wx → Calls Try.prog 61 #[saidV k s t a len cap y] wx fun e w' => e = .returned (.bool (wordOk (k, s, t, l, y))) ∧ Below wx.heap.size wx w') := fun wx hx => i_saidOkA k s t a len cap l y wx hf (h.below hx) hks
    rw [hf] at HS
    clear hf
    generalize saidV k s t a len cap y = V at *
    generalize wordOk (k, s, t, l, y) = R at *
    go_enter Try.func29, Try.ntmps29
    go_wp2_with fail
    rw [HW.out]
    refine HS.out.mono ?_
    rintro e w1 ⟨rfl, hb1⟩
    have hB1 := hba.trans (hb1.mono hba.size)
    go_wp2_with fail
    refine (HO.out _ hB1).mono ?_
    rintro e w2 ⟨rfl, hb2⟩
    go_wp2_with fail
    go_ret
    exact ⟨rfl, hB1.trans (hb2.mono hB1.size)⟩
end Go.Proofs.Ytgiibadbjgdjcaa.wds

namespace Go.Proofs.Ytgiibadbjgdjcaa.cos
open Go Go.RowKit Go.Proofs.Ytgiibadbjgdjcaa.base Go.Proofs.Ytgiibadbjgdjcaa.pairs Go.Proofs.Ytgiibadbjgdjcaa.ords Go.Proofs.Ytgiibadbjgdjcaa.lay Go.Proofs.Ytgiibadbjgdjcaa.wds
set_option linter.unusedVariables false
set_option linter.unusedSimpArgs false

theorem word_at {w : World} {b off len : Nat} {l : List Wd} (h : SlG wordR w (some ⟨b, off, none⟩) len l) (i : Nat) (hi : i < l.length) :
    ∃ oa ol oc, w.cell? ⟨b, off + i * 5, none⟩ = some (.int .i64 l[i].1) ∧ w.cell? ⟨b, off + i * 5 + 1, none⟩ = some (.int .i64 l[i].2.1) ∧ w.cell? ⟨b, off + i * 5 + 2, none⟩ = some (.int .i64 l[i].2.2.1) ∧ w.cell? ⟨b, off + i * 5 + 3, none⟩ = some (.slice oa ol oc) ∧ w.cell? ⟨b, off + i * 5 + 4, none⟩ = some (.bool l[i].2.2.2.2) ∧ SlO w oa ol l[i].2.2.2.1 ∧ ol ≤ oc := by
  obtain ⟨u0, u1, u2, u3, u4, hs, c0, c1, c2, c3, c4⟩ := slg_at5 rfl h i hi
  obtain ⟨oa, ol, oc, e, _, _, _, h4, h5⟩ := word_see.1 hs
  simp only [List.cons.injEq, and_true] at e
  obtain ⟨rfl, rfl, rfl, rfl, rfl⟩ := e
  exact ⟨oa, ol, oc, c0, c1, c2, c3, c4, h4, h5⟩
end Go.Proofs.Ytgiibadbjgdjcaa.cos

namespace Go.Proofs.Ytgiibadbjgdjcaa.cos
open Go Go.RowKit Go.Proofs.Ytgiibadbjgdjcaa.base Go.Proofs.Ytgiibadbjgdjcaa.pairs Go.Proofs.Ytgiibadbjgdjcaa.ords Go.Proofs.Ytgiibadbjgdjcaa.lay Go.Proofs.Ytgiibadbjgdjcaa.wds
set_option linter.unusedVariables false
set_option linter.unusedSimpArgs false

def cntW (x : Wd) : Nat := 4 + 3 * x.2.2.2.1.length
/-- a word that is marked -/
def mW (k : Nat) (x : Wd) : Wd := ((k : Int), ((k + 1 : Nat) : Int), ((k + 2 : Nat) : Int), marksO (k + 3) x.2.2.2.1.length, decide ((k + 3 + 3 * x.2.2.2.1.length) % 3 = 0))
theorem mod3W (m : Nat) : (((m : Nat) : Int) % 3 == 0) = decide (m % 3 = 0) := by
  by_cases h : m % 3 = 0
  · rw [decide_eq_true h]; simp; omega
  · rw [decide_eq_false h]; simp; omega
end Go.Proofs.Ytgiibadbjgdjcaa.cos

namespace Go.Proofs.Ytgiibadbjgdjcaa.cos
open Go Go.RowKit Go.Proofs.Ytgiibadbjgdjcaa.base Go.Proofs.Ytgiibadbjgdjcaa.pairs Go.Proofs.Ytgiibadbjgdjcaa.ords Go.Proofs.Ytgiibadbjgdjcaa.lay Go.Proofs.Ytgiibadbjgdjcaa.wds
set_option linter.unusedVariables false
set_option linter.unusedSimpArgs false

section
variable {w : World} {vs : List Value} {x : Wd} {F : List Nat} {k : Int}
theorem word_set0 (hk : (Lit.int .i64 k).wf = true) (h : wordR.own w vs x F) : wordR.own w (vs.set 0 (.int .i64 k)) (k, x.2.1, x.2.2.1, x.2.2.2.1, x.2.2.2.2) F := by
  obtain ⟨v, rfl, k1, k2, k3, h4⟩ := word_own.1 h
  exact word_own.2 ⟨v, rfl, hk, k2, k3, h4⟩
theorem word_set1 (hk : (Lit.int .i64 k).wf = true) (h : wordR.own w vs x F) : wordR.own w (vs.set 1 (.int .i64 k)) (x.1, k, x.2.2.1, x.2.2.2.1, x.2.2.2.2) F := by
  obtain ⟨v, rfl, k1, k2, k3, h4⟩ := word_own.1 h
  exact word_own.2 ⟨v, rfl, k1, hk, k3, h4⟩
theorem word_set2 (hk : (Lit.int .i64 k).wf = true) (h : wordR.own w vs x F) : wordR.own w (vs.set 2 (.int .i64 k)) (x.1, x.2.1, k, x.2.2.2.1, x.2.2.2.2) F := by
  obtain ⟨v, rfl, k1, k2, k3, h4⟩ := word_own.1 h
  exact word_own.2 ⟨v, rfl, k1, k2, hk, h4⟩
theorem word_set4 {y : Bool} (h : wordR.own w vs x F) : wordR.own w (vs.set 4 (.bool y)) (x.1, x.2.1, x.2.2.1, x.2.2.2.1, y) F := by
  obtain ⟨v, rfl, k1, k2, k3, h4⟩ := word_own.1 h
  exact word_own.2 ⟨v, rfl, k1, k2, k3, h4⟩
theorem word_parts (h : wordR.own w vs x F) : ∃ oa ol oc, vs = [.int .i64 x.1, .int .i64 x.2.1, .int .i64 x.2.2.1, .slice oa ol oc, .bool x.2.2.2.2] ∧ (Lit.int .i64 x.1).wf = true ∧ (Lit.int .i64 x.2.1).wf = true ∧ (Lit.int .i64 x.2.2.1).wf = true ∧ opsR.own w [.slice oa ol oc] x.2.2.2.1 F := by
  obtain ⟨v, e, k1, k2, k3, h4⟩ := word_own.1 h
  obtain ⟨oa, ol, oc, e1⟩ := slice_shape h4
  subst e1
  exact ⟨oa, ol, oc, e, k1, k2, k3, h4⟩
end
end Go.Proofs.Ytgiibadbjgdjcaa.cos

namespace Go.Proofs.Ytgiibadbjgdjcaa.cos
open Go Go.RowKit Go.Proofs.Ytgiibadbjgdjcaa.base Go.Proofs.Ytgiibadbjgdjcaa.pairs Go.Proofs.Ytgiibadbjgdjcaa.ords Go.Proofs.Ytgiibadbjgdjcaa.lay Go.Proofs.Ytgiibadbjgdjcaa.wds
set_option linter.unusedVariables false

theorem opsFor_len (s n : Int) (l : List Od) : (opsFor s n l).length ≤ l.length := List.length_filter_le _ _
theorem holds_small (n tx : Int) (ops : List Od) (yes l : List Int) (h : ops.length ≤ 8) : ∀ x ∈ holdsW n tx ops yes l, x.2.2.2.1.length ≤ 8 := by
  intro x hx
  unfold holdsW at hx
  obtain ⟨s, _, rfl⟩ := List.mem_map.1 hx
  exact Nat.le_trans (opsFor_len _ _ _) h
theorem tells_small (tx : Int) (y : Bool) (l : List Int) : ∀ x ∈ tellsW tx y l, x.2.2.2.1.length ≤ 8 := by
  intro x hx
  unfold tellsW at hx
  obtain ⟨s, _, rfl⟩ := List.mem_map.1 hx
  exact Nat.zero_le _
theorem jobW_small (n life sure : Int) (log : List Ch) (j : Jb) (h : j.2.1.length ≤ 8) : ∀ x ∈ jobW n life sure log j, x.2.2.2.1.length ≤ 8 := by
  unfold jobW
  split
  · exact holds_small _ _ _ _ _ h
  · split
    · exact tells_small _ _ _
    · intro x hx; exact absurd hx List.not_mem_nil
theorem cnt_small : ∀ (l : List Wd), (∀ x ∈ l, x.2.2.2.1.length ≤ 8) → cntAll cntW l ≤ 28 * l.length := by
  intro l
  unfold cntAll
  induction l with
  | nil => intro _; simp
  | cons x l ih =>
    intro h
    have h1 := ih (fun y hy => h y (List.mem_cons_of_mem _ hy))
    have h2 := h x List.mem_cons_self
    have h3 : cntW x ≤ 28 := by unfold cntW; omega
    simp only [List.map_cons, List.sum_cons, List.length_cons] at h1 ⊢
    omega
theorem tell_small {c : Co} (hbd : BoundCo c) : cntAll cntW (tellR c) ≤ 268435456 := by
  unfold tellR
  split
  · rename_i hok
    have hj : ∀ j ∈ c.2.2.2.1, j.2.1.length ≤ 8 := fun j hj => (opsOk_len (coordOk_jobs hok j hj).1).2
    have h1 := wordsOf_len c.1 c.2.1 c.2.2.2.2.2 c.2.2.2.2.1 c.2.2.2.1 hj
    have h2 := hbd.jobs
    have h3 := cnt_small (wordsOf c.1 c.2.1 c.2.2.2.2.2 c.2.2.2.2.1 c.2.2.2.1) (fun x hx => by
      unfold wordsOf at hx
      obtain ⟨j, hm, hx⟩ := List.mem_flatMap.1 hx
      exact jobW_small _ _ _ _ j (hj j hm) x hx)
    omega
  · exact Nat.zero_le _
end Go.Proofs.Ytgiibadbjgdjcaa.cos
