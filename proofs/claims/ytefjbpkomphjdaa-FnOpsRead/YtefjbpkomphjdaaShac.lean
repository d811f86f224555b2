/- Draws of orders. A block of three cells: small facts on worlds; no function of the program is named here. Draws of orders that are right. Draws of orders that are right: some of them. Draws of any orders. -/
import Derived.Test.YtefjbpkomphjdaaShaa
import Derived.Test.YtefjbpkomphjdaaShab
namespace Go.Proofs.Ytefjbpkomphjdaa.ords
open Go Go.RowKit Go.Proofs.Ytefjbpkomphjdaa.base Go.Proofs.Ytefjbpkomphjdaa.pairs Go.Proofs.Ytefjbpkomphjdaa.draw
set_option linter.unusedVariables false
set_option linter.unusedSimpArgs false

def oneGo (o : Od) : Bool → List Od → List Od
  | put, [] => if put = true then [] else [o]
  | put, p :: l => (if (!put && !ltB p.2.1 o.2.1) = true then [o] else []) ++ (if p.2.1 = o.2.1 then [] else [p]) ++ oneGo o (put || !ltB p.2.1 o.2.1) l
theorem oneGo_put (o : Od) (l : List Od) (h : ∀ p ∈ l, p.2.1 ≠ o.2.1) : oneGo o true l = l := by
  induction l with
  | nil => rfl
  | cons p l ih =>
    rw [oneGo, Bool.true_or, ih (fun q hq => h q (List.mem_cons_of_mem _ hq)), if_neg (h p List.mem_cons_self)]
    rfl
theorem oneGo_mem {o p : Od} {b : Bool} {l : List Od} (h : p ∈ oneGo o b l) : p ∈ l ∨ p = o := by
  induction l generalizing b with
  | nil =>
    rw [oneGo] at h
    split at h
    · cases h
    · exact .inr (List.mem_singleton.1 h)
  | cons q l ih =>
    rw [oneGo] at h
    rcases List.mem_append.1 h with h1 | h1
    · rcases List.mem_append.1 h1 with h2 | h2
      · split at h2
        · exact .inr (List.mem_singleton.1 h2)
        · cases h2
      · split at h2
        · cases h2
        · exact .inl (by rw [List.mem_singleton.1 h2]; exact List.mem_cons_self)
    · rcases ih h1 with h2 | h2
      · exact .inl (List.mem_cons_of_mem _ h2)
      · exact .inr h2
theorem oneGo_length (o : Od) (b : Bool) (l : List Od) : (oneGo o b l).length ≤ l.length + (if b = true then 0 else 1) := by
  induction l generalizing b with
  | nil => rw [oneGo]; cases b <;> simp
  | cons p l ih =>
    rw [oneGo]
    have := ih (b || !ltB p.2.1 o.2.1)
    simp only [List.length_append, List.length_cons]
    have h1 : (if p.2.1 = o.2.1 then ([] : List Od) else [p]).length ≤ 1 := by split <;> simp
    cases b
    · cases h2 : ltB p.2.1 o.2.1 <;> simp [h2] at this ⊢ <;> omega
    · simp at this ⊢; omega
theorem oneGo_rise {o : Od} {l : List Od} (h : RiseO l) : RiseO (oneGo o false l) := by
  induction l with
  | nil => exact List.pairwise_singleton _ _
  | cons p l ih =>
    unfold RiseO at h
    rw [List.pairwise_cons] at h
    rw [oneGo]
    cases hl : ltB p.2.1 o.2.1
    · have hne : ∀ q ∈ l, q.2.1 ≠ o.2.1 := by
        intro q hq e
        have := h.1 q hq
        rw [e, hl] at this
        cases this
      rw [show (false || !false) = true from rfl, oneGo_put o l hne]
      by_cases e : p.2.1 = o.2.1
      · simp [e]
        exact List.pairwise_cons.2 ⟨fun q hq => by rw [← e]; exact h.1 q hq, h.2⟩
      · simp [e]
        have hop : ltB o.2.1 p.2.1 = true := by
          cases h3 : ltB o.2.1 p.2.1
          · exact absurd (ltB_total hl h3) e
          · rfl
        refine List.pairwise_cons.2 ⟨fun q hq => ?_, List.pairwise_cons.2 ⟨h.1, h.2⟩⟩
        rcases List.mem_cons.1 hq with rfl | hq
        · exact hop
        · exact ltB_trans hop (h.1 q hq)
    · have e : ¬ p.2.1 = o.2.1 := ltB_ne hl
      simp [e]
      refine List.pairwise_cons.2 ⟨fun q hq => ?_, ih h.2⟩
      rcases oneGo_mem hq with h1 | rfl
      · exact h.1 q h1
      · exact hl
theorem keep3 {w w' : World} {b o1 o2 o3 : Nat} {v1 v2 v3 : Value} {row : Option Nat} (hg : w.grownBy w' row) (hne : some b ≠ row) (h : w.cell? ⟨b, o1, none⟩ = some v1 ∧ w.cell? ⟨b, o2, none⟩ = some v2 ∧ w.cell? ⟨b, o3, none⟩ = some v3) : w'.cell? ⟨b, o1, none⟩ = some v1 ∧ w'.cell? ⟨b, o2, none⟩ = some v2 ∧ w'.cell? ⟨b, o3, none⟩ = some v3 :=
  ⟨hg.cell h.1 hne, hg.cell h.2.1 hne, hg.cell h.2.2 hne⟩
set_option maxRecDepth 100000 in
set_option maxHeartbeats 4000000 in
theorem spec_l7One (a : Option Addr) (len cap : Nat) (l : List Od) (o : Od) (w : World) (h : SlO w a len l) (ho : smallO o) (hsz : len ≤ 1000) :
    Calls Try.prog 63 #[.slice a len cap, .agg #[.int .i64 o.1, .string o.2.1, .string o.2.2]] w fun e w' =>
      ∃ g' n' cap', e = .returned (.slice (some ⟨g', 0, none⟩) n' cap') ∧ OwnO w' w.heap.size g' n' cap' (oneGo o false l) ∧ Below w.heap.size w w' := by
  obtain ⟨i0, hif, hz0, hz1, hz2⟩ := info_parts infoO
  have hl := h.1
  have hsm := h.2.2.1
  subst hl
  generalize hR : oneGo o false l = R
  have HR := Hid.mk' hR
  clear hR
  have hba : Below w.heap.size w (w.alloc (.cells #[.int .i64 o.1, .string o.2.1, .string o.2.2] 53)) := (Below.refl _ _).alloc (Nat.le_refl _) _
  have hO0 := ownO_made (w.alloc (.cells #[.int .i64 o.1, .string o.2.1, .string o.2.2] 53)) (w.heap.size + 1) (by simp)
  have hsz1 : (w.alloc (.cells #[.int .i64 o.1, .string o.2.1, .string o.2.2] 53)).heap.size = w.heap.size + 1 := by simp
  rw [hsz1] at hO0
  have hba2 := hba.alloc (le_alloc _ _ (Nat.le_refl _)) (.cells #[] 53)
  obtain ⟨wz, hwz⟩ : ∃ wz, (w.alloc (.cells #[.int .i64 o.1, .string o.2.1, .string o.2.2] 53)).alloc (.cells #[] 53) = wz := ⟨_, rfl⟩
  have hC0 : wz.cell? ⟨w.heap.size, 0, none⟩ = some (.int .i64 o.1) ∧ wz.cell? ⟨w.heap.size, 1, none⟩ = some (.string o.2.1) ∧ wz.cell? ⟨w.heap.size, 2, none⟩ = some (.string o.2.2) := by
    rw [← hwz]
    refine ⟨?_, ?_, ?_⟩ <;> simp [go_sem]
  rw [hwz] at hO0 hba2
  have HWZ := Hid.mk' hwz
  clear hwz hba hsz1
  go_enter Try.func63, Try.ntmps63
  go_wp2_with (at_builtin; fail)
  rw [HWZ.out]
  clear HWZ
  go_loopw [5, 6, 7] (fun v pv i wr => ∃ (k g n cp : Nat) (put : Bool) (acc : List Od), k ≤ l.length ∧ n ≤ 2 * k ∧ i = .int .i64 (k : Int) ∧ pv = .bool put ∧ v = .slice (some ⟨g, 0, none⟩) n cp ∧ acc ++ oneGo o put (l.drop k) = R ∧ OwnO wr (w.heap.size + 1) g n cp acc ∧ (wr.cell? ⟨w.heap.size, 0, none⟩ = some (.int .i64 o.1) ∧ wr.cell? ⟨w.heap.size, 1, none⟩ = some (.string o.2.1) ∧ wr.cell? ⟨w.heap.size, 2, none⟩ = some (.string o.2.2)) ∧ Below w.heap.size w wr) (fun _ _ i _ => l.length - (intOf i).toNat)
  case atStart => exact ⟨0, w.heap.size + 1, 0, 0, false, [], Nat.zero_le _, Nat.le_refl _, rfl, rfl, rfl, HR.out, hO0, hC0, hba2⟩
  case round =>
    clear hO0 hC0 hba2 HR
    obtain ⟨k, g, n, cp, put, acc, hk, hn, rfl, rfl, rfl, hr, hO, hC, hB⟩ := hrel
    by_cases hlt : k < l.length
    · obtain ⟨b, off, ha, _⟩ := h.2.2.2 (by omega)
      subst ha
      have hcc := (h.below hB).cells k hlt
      have hpk := hsm _ (List.getElem_mem hlt)
      have hki : (k : Int) < (l.length : Int) := by omega
      rw [List.drop_eq_getElem_cons hlt, oneGo] at hr
      have HKP : Hid (∀ wx, Below w.heap.size w wx → CellsO wx b off l) := fun wx hx => (h.below hx).cells
      have HKQ : Hid (∀ wx, Below w.heap.size w wx → wx.cell? ⟨b, off + k * 3, none⟩ = some (.int .i64 l[k].1) ∧ wx.cell? ⟨b, off + k * 3 + 1, none⟩ = some (.string l[k].2.1) ∧ wx.cell? ⟨b, off + k * 3 + 2, none⟩ = some (.string l[k].2.2)) := fun wx hx => (h.below hx).cells k hlt
      clear HKP
      generalize l[k] = p at *
      have hOwr := hO
      have hBwr := hB
      have hCwr := hC
      have hPwr := hcc
      clear hO hB hC hcc
      by_cases he : p.2.1 = o.2.1
      · rw [if_pos he] at hr
        have hlt0 : ltB p.2.1 o.2.1 = false := by rw [he]; exact ltB_irrefl _
        rw [hlt0] at hr
        have hb0 : Op.bytesLess o.2.1.toList o.2.1.toList = false := ltB_irrefl _
        have hq : (o.2.1.toList == o.2.1.toList) = true := beq_self_eq_true _
        rw [he] at HKQ hPwr
        clear hlt0
        cases put
        · have HF : Hid ((acc ++ [o]) ++ oneGo o true (l.drop (k + 1)) = R) := by show _ = _; rw [← hr]; simp
          clear hr
          have oc4 := last.On.cell (B := wr.heap.size) hPwr.2.1 (World.block_lt_of_cell? _ _ hPwr.2.1)
          have oe4 := last.On.cell (B := wr.heap.size) hCwr.2.1 (World.block_lt_of_cell? _ _ hCwr.2.1)
          have hinh4 := last.On.inh wr.heap.size wr
          go_wp2_with (at_builtin; fail)
          refine last.wp_region_on wr.heap.size (by kernel_rfl) (by kernel_rfl) ?_
          repeat (go_big_quiet_step ((fail)))
          refine wpQuiet_nil ?_
          intro wq hwq
          obtain ⟨xq, hwq⟩ := hwq
          subst hwq
          have hbq4 : Below wr.heap.size wr xq.w := xq.2
          generalize xq.w = w4 at *
          have hOw4 := hOwr.below hbq4
          have hBw4 := hBwr.trans (hbq4.mono hBwr.size)
          have hCw4 := keepB3 hbq4 hCwr
          have hPw4 := keepB3 hbq4 hPwr
          clear oc4 oe4 hinh4 hbq4 hOwr hBwr hCwr hPwr
          have x0 := hCw4.1
          have x1 := hCw4.2.1
          have x2 := hCw4.2.2
          have hc35 : n + 1 ≤ maxLen := by unfold maxLen; omega
          have hc45 : (n + 1) * 40 ≤ 140737488355328 := by omega
          have hgl5 := hOw4.lt
          have hbw5 : w.heap.size + 1 ≤ w4.heap.size := by omega
          have hbz5 := hBw4.size
          go_wp2_with (at_builtin; refine wpList_append_own _ rfl _ _ 24 rfl (w.heap.size + 1) 53 i0 (.agg #[.int .i64 0, .string ⟨#[]⟩, .string ⟨#[]⟩]) 3 40 Try.underlying24 hif hz0 hz1 hz2 rfl (by decide) _ _ _ rfl (hOw4.2.2.alloc _) ⟨w4.heap.size, 0, none⟩ 1 1 (ordVals [o]) rfl rfl (one_ord_cells _ _ _) (ordVals_oneCell _) hc35 hc45 (le_alloc _ _ hbw5) ?_)
          intro v5 w5 hown hgrow hnn
          obtain ⟨g5, cp5, hv, hO5⟩ := ownO_app hOw4.1 hOw4.2.1 ho hnn hown
          subst hv
          have hB5 : Below w.heap.size w w5 := (hBw4.alloc hbz5 _).grown hgrow (le_alloc _ _ hbz5) (fun k e => by simp [Value.ownBlock] at e; omega)
          have hC5 := keep3 hgrow (by simp [Value.ownBlock]; omega) (keepB3 ((Below.refl _ _).alloc (Nat.le_refl _) (.cells #[.int .i64 o.1, .string o.2.1, .string o.2.2] 53)) hCw4)
          clear hown hgrow hnn
          have hP5 := HKQ.out _ hB5
          have hOw5 := hO5
          have hBw5 := hB5
          have hCw5 := hC5
          have hPw5 := hP5
          clear hO5 hB5 hC5 hP5 x0 x1 x2 hOw4 hBw4 hCw4 hPw4
          have oc6 := last.On.cell (B := w5.heap.size) hPw5.2.1 (World.block_lt_of_cell? _ _ hPw5.2.1)
          have oe6 := last.On.cell (B := w5.heap.size) hCw5.2.1 (World.block_lt_of_cell? _ _ hCw5.2.1)
          have hinh6 := last.On.inh w5.heap.size w5
          go_wp2_with (at_builtin; fail)
          refine last.wp_region_on w5.heap.size (by kernel_rfl) (by kernel_rfl) ?_
          repeat (go_big_quiet_step ((fail)))
          refine wpQuiet_nil ?_
          intro wq hwq
          obtain ⟨xq, hwq⟩ := hwq
          subst hwq
          have hbq6 : Below w5.heap.size w5 xq.w := xq.2
          generalize xq.w = w6 at *
          have hOw6 := hOw5.below hbq6
          have hBw6 := hBw5.trans (hbq6.mono hBw5.size)
          have hCw6 := keepB3 hbq6 hCw5
          have hPw6 := keepB3 hbq6 hPw5
          clear oc6 oe6 hinh6 hbq6 hOw5 hBw5 hCw5 hPw5
          have HX := Hid.mk' hCw6
          have HY := Hid.mk' hPw6
          clear hCw6 hPw6
          go_wp2_with (at_builtin; fail)
          go_roundw
          case rel => exact ⟨k + 1, g5, n + 1, cp5, true, acc ++ [o], by omega, by omega, by go_num, rfl, rfl, HF.out, hOw6, HX.out, hBw6⟩
          case measure => simp [intOf]; omega
        · have HF : Hid (acc ++ oneGo o true (l.drop (k + 1)) = R) := by show _ = _; rw [← hr]; simp
          clear hr
          have oc4 := last.On.cell (B := wr.heap.size) hPwr.2.1 (World.block_lt_of_cell? _ _ hPwr.2.1)
          have oe4 := last.On.cell (B := wr.heap.size) hCwr.2.1 (World.block_lt_of_cell? _ _ hCwr.2.1)
          have hinh4 := last.On.inh wr.heap.size wr
          go_wp2_with (at_builtin; fail)
          refine last.wp_region_on wr.heap.size (by kernel_rfl) (by kernel_rfl) ?_
          repeat (go_big_quiet_step ((fail)))
          refine wpQuiet_nil ?_
          intro wq hwq
          obtain ⟨xq, hwq⟩ := hwq
          subst hwq
          have hbq4 : Below wr.heap.size wr xq.w := xq.2
          generalize xq.w = w4 at *
          have hOw4 := hOwr.below hbq4
          have hBw4 := hBwr.trans (hbq4.mono hBwr.size)
          have hCw4 := keepB3 hbq4 hCwr
          have hPw4 := keepB3 hbq4 hPwr
          clear oc4 oe4 hinh4 hbq4 hOwr hBwr hCwr hPwr
          have oc6 := last.On.cell (B := w4.heap.size) hPw4.2.1 (World.block_lt_of_cell? _ _ hPw4.2.1)
          have oe6 := last.On.cell (B := w4.heap.size) hCw4.2.1 (World.block_lt_of_cell? _ _ hCw4.2.1)
          have hinh6 := last.On.inh w4.heap.size w4
          go_wp2_with (at_builtin; fail)
          refine last.wp_region_on w4.heap.size (by kernel_rfl) (by kernel_rfl) ?_
          repeat (go_big_quiet_step ((fail)))
          refine wpQuiet_nil ?_
          intro wq hwq
          obtain ⟨xq, hwq⟩ := hwq
          subst hwq
          have hbq6 : Below w4.heap.size w4 xq.w := xq.2
          generalize xq.w = w6 at *
          have hOw6 := hOw4.below hbq6
          have hBw6 := hBw4.trans (hbq6.mono hBw4.size)
          have hCw6 := keepB3 hbq6 hCw4
          have hPw6 := keepB3 hbq6 hPw4
          clear oc6 oe6 hinh6 hbq6 hOw4 hBw4 hCw4 hPw4
          have HX := Hid.mk' hCw6
          have HY := Hid.mk' hPw6
          clear hCw6 hPw6
          go_wp2_with (at_builtin; fail)
          go_roundw
          case rel => exact ⟨k + 1, g, n, cp, true, acc, by omega, by omega, by go_num, rfl, rfl, HF.out, hOw6, HX.out, hBw6⟩
          case measure => simp [intOf]; omega
      · rw [if_neg he] at hr
        have hq := str_ne he
        cases put
        · cases hl0 : ltB p.2.1 o.2.1
          · rw [hl0] at hr
            have HF : Hid ((acc ++ [o] ++ [p]) ++ oneGo o true (l.drop (k + 1)) = R) := by show _ = _; rw [← hr]; simp
            have hb0 : Op.bytesLess p.2.1.toList o.2.1.toList = false := hl0
            clear hr hl0
            have oc4 := last.On.cell (B := wr.heap.size) hPwr.2.1 (World.block_lt_of_cell? _ _ hPwr.2.1)
            have oe4 := last.On.cell (B := wr.heap.size) hCwr.2.1 (World.block_lt_of_cell? _ _ hCwr.2.1)
            have hinh4 := last.On.inh wr.heap.size wr
            go_wp2_with (at_builtin; fail)
            refine last.wp_region_on wr.heap.size (by kernel_rfl) (by kernel_rfl) ?_
            repeat (go_big_quiet_step ((fail)))
            refine wpQuiet_nil ?_
            intro wq hwq
            obtain ⟨xq, hwq⟩ := hwq
            subst hwq
            have hbq4 : Below wr.heap.size wr xq.w := xq.2
            generalize xq.w = w4 at *
            have hOw4 := hOwr.below hbq4
            have hBw4 := hBwr.trans (hbq4.mono hBwr.size)
            have hCw4 := keepB3 hbq4 hCwr
            have hPw4 := keepB3 hbq4 hPwr
            clear oc4 oe4 hinh4 hbq4 hOwr hBwr hCwr hPwr
            have x0 := hCw4.1
            have x1 := hCw4.2.1
            have x2 := hCw4.2.2
            have hc35 : n + 1 ≤ maxLen := by unfold maxLen; omega
            have hc45 : (n + 1) * 40 ≤ 140737488355328 := by omega
            have hgl5 := hOw4.lt
            have hbw5 : w.heap.size + 1 ≤ w4.heap.size := by omega
            have hbz5 := hBw4.size
            go_wp2_with (at_builtin; refine wpList_append_own _ rfl _ _ 24 rfl (w.heap.size + 1) 53 i0 (.agg #[.int .i64 0, .string ⟨#[]⟩, .string ⟨#[]⟩]) 3 40 Try.underlying24 hif hz0 hz1 hz2 rfl (by decide) _ _ _ rfl (hOw4.2.2.alloc _) ⟨w4.heap.size, 0, none⟩ 1 1 (ordVals [o]) rfl rfl (one_ord_cells _ _ _) (ordVals_oneCell _) hc35 hc45 (le_alloc _ _ hbw5) ?_)
            intro v5 w5 hown hgrow hnn
            obtain ⟨g5, cp5, hv, hO5⟩ := ownO_app hOw4.1 hOw4.2.1 ho hnn hown
            subst hv
            have hB5 : Below w.heap.size w w5 := (hBw4.alloc hbz5 _).grown hgrow (le_alloc _ _ hbz5) (fun k e => by simp [Value.ownBlock] at e; omega)
            have hC5 := keep3 hgrow (by simp [Value.ownBlock]; omega) (keepB3 ((Below.refl _ _).alloc (Nat.le_refl _) (.cells #[.int .i64 o.1, .string o.2.1, .string o.2.2] 53)) hCw4)
            clear hown hgrow hnn
            have hP5 := HKQ.out _ hB5
            have hOw5 := hO5
            have hBw5 := hB5
            have hCw5 := hC5
            have hPw5 := hP5
            clear hO5 hB5 hC5 hP5 x0 x1 x2 hOw4 hBw4 hCw4 hPw4
            have hmk : n + 1 ≤ 2 * k + 1 := by omega
            generalize n + 1 = m at *
            have oc6 := last.On.cell (B := w5.heap.size) hPw5.2.1 (World.block_lt_of_cell? _ _ hPw5.2.1)
            have oe6 := last.On.cell (B := w5.heap.size) hCw5.2.1 (World.block_lt_of_cell? _ _ hCw5.2.1)
            have hinh6 := last.On.inh w5.heap.size w5
            go_wp2_with (at_builtin; fail)
            refine last.wp_region_on w5.heap.size (by kernel_rfl) (by kernel_rfl) ?_
            repeat (go_big_quiet_step ((fail)))
            refine wpQuiet_nil ?_
            intro wq hwq
            obtain ⟨xq, hwq⟩ := hwq
            subst hwq
            have hbq6 : Below w5.heap.size w5 xq.w := xq.2
            generalize xq.w = w6 at *
            have hOw6 := hOw5.below hbq6
            have hBw6 := hBw5.trans (hbq6.mono hBw5.size)
            have hCw6 := keepB3 hbq6 hCw5
            have hPw6 := keepB3 hbq6 hPw5
            clear oc6 oe6 hinh6 hbq6 hOw5 hBw5 hCw5 hPw5
            have x0 := hPw6.1
            have x1 := hPw6.2.1
            have x2 := hPw6.2.2
            have hc37 : m + 1 ≤ maxLen := by unfold maxLen; omega
            have hc47 : (m + 1) * 40 ≤ 140737488355328 := by omega
            have hgl7 := hOw6.lt
            have hbw7 : w.heap.size + 1 ≤ w6.heap.size := by omega
            have hbz7 := hBw6.size
            go_wp2_with (at_builtin; refine wpList_append_own _ rfl _ _ 24 rfl (w.heap.size + 1) 53 i0 (.agg #[.int .i64 0, .string ⟨#[]⟩, .string ⟨#[]⟩]) 3 40 Try.underlying24 hif hz0 hz1 hz2 rfl (by decide) _ _ _ rfl (hOw6.2.2.alloc _) ⟨w6.heap.size, 0, none⟩ 1 1 (ordVals [p]) rfl rfl (one_ord_cells _ _ _) (ordVals_oneCell _) hc37 hc47 (le_alloc _ _ hbw7) ?_)
            intro v7 w7 hown hgrow hnn
            obtain ⟨g7, cp7, hv, hO7⟩ := ownO_app hOw6.1 hOw6.2.1 hpk hnn hown
            subst hv
            have hB7 : Below w.heap.size w w7 := (hBw6.alloc hbz7 _).grown hgrow (le_alloc _ _ hbz7) (fun k e => by simp [Value.ownBlock] at e; omega)
            have hC7 := keep3 hgrow (by simp [Value.ownBlock]; omega) (keepB3 ((Below.refl _ _).alloc (Nat.le_refl _) (.cells #[.int .i64 p.1, .string p.2.1, .string p.2.2] 53)) hCw6)
            clear hown hgrow hnn
            have hP7 := HKQ.out _ hB7
            have hOw7 := hO7
            have hBw7 := hB7
            have hCw7 := hC7
            have hPw7 := hP7
            clear hO7 hB7 hC7 hP7 x0 x1 x2 hOw6 hBw6 hCw6 hPw6
            have HX := Hid.mk' hCw7
            have HY := Hid.mk' hPw7
            clear hCw7 hPw7
            go_wp2_with (at_builtin; fail)
            go_roundw
            case rel => exact ⟨k + 1, g7, m + 1, cp7, true, acc ++ [o] ++ [p], by omega, by omega, by go_num, rfl, rfl, HF.out, hOw7, HX.out, hBw7⟩
            case measure => simp [intOf]; omega
          · rw [hl0] at hr
            have HF : Hid ((acc ++ [p]) ++ oneGo o false (l.drop (k + 1)) = R) := by show _ = _; rw [← hr]; simp
            have hb0 : Op.bytesLess p.2.1.toList o.2.1.toList = true := hl0
            clear hr hl0
            have oc4 := last.On.cell (B := wr.heap.size) hPwr.2.1 (World.block_lt_of_cell? _ _ hPwr.2.1)
            have oe4 := last.On.cell (B := wr.heap.size) hCwr.2.1 (World.block_lt_of_cell? _ _ hCwr.2.1)
            have hinh4 := last.On.inh wr.heap.size wr
            go_wp2_with (at_builtin; fail)
            refine last.wp_region_on wr.heap.size (by kernel_rfl) (by kernel_rfl) ?_
            repeat (go_big_quiet_step ((fail)))
            refine wpQuiet_nil ?_
            intro wq hwq
            obtain ⟨xq, hwq⟩ := hwq
            subst hwq
            have hbq4 : Below wr.heap.size wr xq.w := xq.2
            generalize xq.w = w4 at *
            have hOw4 := hOwr.below hbq4
            have hBw4 := hBwr.trans (hbq4.mono hBwr.size)
            have hCw4 := keepB3 hbq4 hCwr
            have hPw4 := keepB3 hbq4 hPwr
            clear oc4 oe4 hinh4 hbq4 hOwr hBwr hCwr hPwr
            have oc6 := last.On.cell (B := w4.heap.size) hPw4.2.1 (World.block_lt_of_cell? _ _ hPw4.2.1)
            have oe6 := last.On.cell (B := w4.heap.size) hCw4.2.1 (World.block_lt_of_cell? _ _ hCw4.2.1)
            have hinh6 := last.On.inh w4.heap.size w4
            go_wp2_with (at_builtin; fail)
            refine last.wp_region_on w4.heap.size (by kernel_rfl) (by kernel_rfl) ?_
            repeat (go_big_quiet_step ((fail)))
            refine wpQuiet_nil ?_
            intro wq hwq
            obtain ⟨xq, hwq⟩ := hwq
            subst hwq
            have hbq6 : Below w4.heap.size w4 xq.w := xq.2
            generalize xq.w = w6 at *
            have hOw6 := hOw4.below hbq6
            have hBw6 := hBw4.trans (hbq6.mono hBw4.size)
            have hCw6 := keepB3 hbq6 hCw4
            have hPw6 := keepB3 hbq6 hPw4
            clear oc6 oe6 hinh6 hbq6 hOw4 hBw4 hCw4 hPw4
            have x0 := hPw6.1
            have x1 := hPw6.2.1
            have x2 := hPw6.2.2
            have hc37 : n + 1 ≤ maxLen := by unfold maxLen; omega
            have hc47 : (n + 1) * 40 ≤ 140737488355328 := by omega
            have hgl7 := hOw6.lt
            have hbw7 : w.heap.size + 1 ≤ w6.heap.size := by omega
            have hbz7 := hBw6.size
            go_wp2_with (at_builtin; refine wpList_append_own _ rfl _ _ 24 rfl (w.heap.size + 1) 53 i0 (.agg #[.int .i64 0, .string ⟨#[]⟩, .string ⟨#[]⟩]) 3 40 Try.underlying24 hif hz0 hz1 hz2 rfl (by decide) _ _ _ rfl (hOw6.2.2.alloc _) ⟨w6.heap.size, 0, none⟩ 1 1 (ordVals [p]) rfl rfl (one_ord_cells _ _ _) (ordVals_oneCell _) hc37 hc47 (le_alloc _ _ hbw7) ?_)
            intro v7 w7 hown hgrow hnn
            obtain ⟨g7, cp7, hv, hO7⟩ := ownO_app hOw6.1 hOw6.2.1 hpk hnn hown
            subst hv
            have hB7 : Below w.heap.size w w7 := (hBw6.alloc hbz7 _).grown hgrow (le_alloc _ _ hbz7) (fun k e => by simp [Value.ownBlock] at e; omega)
            have hC7 := keep3 hgrow (by simp [Value.ownBlock]; omega) (keepB3 ((Below.refl _ _).alloc (Nat.le_refl _) (.cells #[.int .i64 p.1, .string p.2.1, .string p.2.2] 53)) hCw6)
            clear hown hgrow hnn
            have hP7 := HKQ.out _ hB7
            have hOw7 := hO7
            have hBw7 := hB7
            have hCw7 := hC7
            have hPw7 := hP7
            clear hO7 hB7 hC7 hP7 x0 x1 x2 hOw6 hBw6 hCw6 hPw6
            have HX := Hid.mk' hCw7
            have HY := Hid.mk' hPw7
            clear hCw7 hPw7
            go_wp2_with (at_builtin; fail)
            go_roundw
            case rel => exact ⟨k + 1, g7, n + 1, cp7, false, acc ++ [p], by omega, by omega, by go_num, rfl, rfl, HF.out, hOw7, HX.out, hBw7⟩
            case measure => simp [intOf]; omega
        · have HF : Hid ((acc ++ [p]) ++ oneGo o true (l.drop (k + 1)) = R) := by show _ = _; rw [← hr]; simp
          clear hr
          have oc4 := last.On.cell (B := wr.heap.size) hPwr.2.1 (World.block_lt_of_cell? _ _ hPwr.2.1)
          have oe4 := last.On.cell (B := wr.heap.size) hCwr.2.1 (World.block_lt_of_cell? _ _ hCwr.2.1)
          have hinh4 := last.On.inh wr.heap.size wr
          go_wp2_with (at_builtin; fail)
          refine last.wp_region_on wr.heap.size (by kernel_rfl) (by kernel_rfl) ?_
          repeat (go_big_quiet_step ((fail)))
          refine wpQuiet_nil ?_
          intro wq hwq
          obtain ⟨xq, hwq⟩ := hwq
          subst hwq
          have hbq4 : Below wr.heap.size wr xq.w := xq.2
          generalize xq.w = w4 at *
          have hOw4 := hOwr.below hbq4
          have hBw4 := hBwr.trans (hbq4.mono hBwr.size)
          have hCw4 := keepB3 hbq4 hCwr
          have hPw4 := keepB3 hbq4 hPwr
          clear oc4 oe4 hinh4 hbq4 hOwr hBwr hCwr hPwr
          have oc6 := last.On.cell (B := w4.heap.size) hPw4.2.1 (World.block_lt_of_cell? _ _ hPw4.2.1)
          have oe6 := last.On.cell (B := w4.heap.size) hCw4.2.1 (World.block_lt_of_cell? _ _ hCw4.2.1)
          have hinh6 := last.On.inh w4.heap.size w4
          go_wp2_with (at_builtin; fail)
          refine last.wp_region_on w4.heap.size (by kernel_rfl) (by kernel_rfl) ?_
          repeat (go_big_quiet_step ((fail)))
          refine wpQuiet_nil ?_
          intro wq hwq
          obtain ⟨xq, hwq⟩ := hwq
          subst hwq
          have hbq6 : Below w4.heap.size w4 xq.w := xq.2
          generalize xq.w = w6 at *
          have hOw6 := hOw4.below hbq6
          have hBw6 := hBw4.trans (hbq6.mono hBw4.size)
          have hCw6 := keepB3 hbq6 hCw4
          have hPw6 := keepB3 hbq6 hPw4
          clear oc6 oe6 hinh6 hbq6 hOw4 hBw4 hCw4 hPw4
          have x0 := hPw6.1
          have x1 := hPw6.2.1
          have x2 := hPw6.2.2
          have hc37 : n + 1 ≤ maxLen := by unfold maxLen; omega
          have hc47 : (n + 1) * 40 ≤ 140737488355328 := by omega
          have hgl7 := hOw6.lt
          have hbw7 : w.heap.size + 1 ≤ w6.heap.size := by omega
          have hbz7 := hBw6.size
          go_wp2_with (at_builtin; refine wpList_append_own _ rfl _ _ 24 rfl (w.heap.size + 1) 53 i0 (.agg #[.int .i64 0, .string ⟨#[]⟩, .string ⟨#[]⟩]) 3 40 Try.underlying24 hif hz0 hz1 hz2 rfl (by decide) _ _ _ rfl (hOw6.2.2.alloc _) ⟨w6.heap.size, 0, none⟩ 1 1 (ordVals [p]) rfl rfl (one_ord_cells _ _ _) (ordVals_oneCell _) hc37 hc47 (le_alloc _ _ hbw7) ?_)
          intro v7 w7 hown hgrow hnn
          obtain ⟨g7, cp7, hv, hO7⟩ := ownO_app hOw6.1 hOw6.2.1 hpk hnn hown
          subst hv
          have hB7 : Below w.heap.size w w7 := (hBw6.alloc hbz7 _).grown hgrow (le_alloc _ _ hbz7) (fun k e => by simp [Value.ownBlock] at e; omega)
          have hC7 := keep3 hgrow (by simp [Value.ownBlock]; omega) (keepB3 ((Below.refl _ _).alloc (Nat.le_refl _) (.cells #[.int .i64 p.1, .string p.2.1, .string p.2.2] 53)) hCw6)
          clear hown hgrow hnn
          have hP7 := HKQ.out _ hB7
          have hOw7 := hO7
          have hBw7 := hB7
          have hCw7 := hC7
          have hPw7 := hP7
          clear hO7 hB7 hC7 hP7 x0 x1 x2 hOw6 hBw6 hCw6 hPw6
          have HX := Hid.mk' hCw7
          have HY := Hid.mk' hPw7
          clear hCw7 hPw7
          go_wp2_with (at_builtin; fail)
          go_roundw
          case rel => exact ⟨k + 1, g7, n + 1, cp7, true, acc ++ [p], by omega, by omega, by go_num, rfl, rfl, HF.out, hOw7, HX.out, hBw7⟩
          case measure => simp [intOf]; omega
    · have hd : l.drop k = [] := List.drop_eq_nil_of_le (by omega)
      rw [hd, oneGo] at hr
      obtain ⟨e0, e1, e2⟩ := hC
      cases put
      · have HF : Hid (acc ++ [o] = R) := by show _ = _; simpa using hr
        clear hr hd
        have hc33 : n + 1 ≤ maxLen := by unfold maxLen; omega
        have hc43 : (n + 1) * 40 ≤ 140737488355328 := by omega
        have hgl3 := hO.lt
        have hbw3 : w.heap.size + 1 ≤ wr.heap.size := by omega
        have hbz3 := hB.size
        go_wp2_with (at_builtin; refine wpList_append_own _ rfl _ _ 24 rfl (w.heap.size + 1) 53 i0 (.agg #[.int .i64 0, .string ⟨#[]⟩, .string ⟨#[]⟩]) 3 40 Try.underlying24 hif hz0 hz1 hz2 rfl (by decide) _ _ _ rfl (hO.2.2.alloc _) ⟨wr.heap.size, 0, none⟩ 1 1 (ordVals [o]) rfl rfl (one_ord_cells _ _ _) (ordVals_oneCell _) hc33 hc43 (le_alloc _ _ hbw3) ?_)
        intro v3 w3 hown hgrow hnn
        obtain ⟨g3, cp3, hv, hO3⟩ := ownO_app hO.1 hO.2.1 ho hnn hown
        subst hv
        have hB3 : Below w.heap.size w w3 := (hB.alloc hbz3 _).grown hgrow (le_alloc _ _ hbz3) (fun k e => by simp [Value.ownBlock] at e; omega)
        have hC3 := keep3 hgrow (by simp [Value.ownBlock]; omega) (keepB3 ((Below.refl _ _).alloc (Nat.le_refl _) (.cells #[.int .i64 o.1, .string o.2.1, .string o.2.2] 53)) ⟨e0, e1, e2⟩)
        clear hown hgrow hnn
        go_wp2_with (at_builtin; fail)
        go_ret
        rw [← HF.out]
        exact ⟨g3, _, cp3, rfl, hO3.mono (by omega), hB3⟩
      · have HF : Hid (acc = R) := by show _ = _; simpa using hr
        clear hr hd
        go_wp2_with (at_builtin; fail)
        go_ret
        rw [← HF.out]
        exact ⟨g, _, cp, rfl, hO.mono (by omega), hB⟩
end Go.Proofs.Ytefjbpkomphjdaa.ords

namespace Go.Proofs.Ytefjbpkomphjdaa.ords
open Go Go.RowKit Go.Proofs.Ytefjbpkomphjdaa.base Go.Proofs.Ytefjbpkomphjdaa.pairs
set_option linter.unusedVariables false

def V3 (w : World) (g : Nat) (t : TypeId) (x y z : Value) : Prop := w.heap[g]? = some (.cells #[x, y, z] t (0, 0))
section
variable {w w' : World} {g : Nat} {t : TypeId} {x y z : Value}
theorem V3.c0 (h : V3 w g t x y z) : w.cell? ⟨g, 0, none⟩ = some x := cell_cur h 0 _ rfl
theorem V3.c1 (h : V3 w g t x y z) : w.cell? ⟨g, 1, none⟩ = some y := cell_cur h 1 _ rfl
theorem V3.c2 (h : V3 w g t x y z) : w.cell? ⟨g, 2, none⟩ = some z := cell_cur h 2 _ rfl
theorem V3.lt (h : V3 w g t x y z) : g < w.heap.size := (Array.getElem?_eq_some_iff.1 h).1
theorem V3.below (h : V3 w g t x y z) (hb : Below w.heap.size w w') : V3 w' g t x y z := (hb.block g h.lt).trans h
end
theorem v3_grown {w w' : World} {g : Nat} {t : TypeId} {x y z : Value} {row : Option Nat} (h : V3 w g t x y z) (hg : w.grownBy w' row) (hne : some g ≠ row) : V3 w' g t x y z := (hg.block g h.lt hne).trans h
theorem v3_fz {w : World} {g : Nat} {t : TypeId} {x y z : Value} (h : V3 w g t x y z) (j : Nat) : w.frozen? ⟨g, j, none⟩ = false := by
  unfold V3 at h; simp [World.frozen?, h]
theorem v3_set {w : World} {g : Nat} {t : TypeId} {x y z : Value} (h : V3 w g t x y z) : (∀ u, V3 (w.setCell ⟨g, 0, none⟩ u) g t u y z ∧ w.grownBy (w.setCell ⟨g, 0, none⟩ u) (some g)) ∧ (∀ u, V3 (w.setCell ⟨g, 1, none⟩ u) g t x u z ∧ w.grownBy (w.setCell ⟨g, 1, none⟩ u) (some g)) ∧ (∀ u, V3 (w.setCell ⟨g, 2, none⟩ u) g t x y u ∧ w.grownBy (w.setCell ⟨g, 2, none⟩ u) (some g)) :=
  ⟨fun u => ⟨(set_cur h 0 u).1, (set_cur h 0 u).2⟩, fun u => ⟨(set_cur h 1 u).1, (set_cur h 1 u).2⟩, fun u => ⟨(set_cur h 2 u).1, (set_cur h 2 u).2⟩⟩
theorem v3_all {w : World} {g : Nat} {t : TypeId} {x y z : Value} (h : V3 w g t x y z) (a b c : Value) : V3 (((w.setCell ⟨g, 0, none⟩ a).setCell ⟨g, 1, none⟩ b).setCell ⟨g, 2, none⟩ c) g t a b c ∧ w.grownBy (((w.setCell ⟨g, 0, none⟩ a).setCell ⟨g, 1, none⟩ b).setCell ⟨g, 2, none⟩ c) (some g) := by
  have h1 := (v3_set h).1 a
  have h2 := (v3_set h1.1).2.1 b
  have h3 := (v3_set h2.1).2.2 c
  exact ⟨h3.1, grownBy_trans (grownBy_trans h1.2 h2.2) h3.2⟩
end Go.Proofs.Ytefjbpkomphjdaa.ords

namespace Go.Proofs.Ytefjbpkomphjdaa.ords
open Go Go.RowKit Go.Proofs.Ytefjbpkomphjdaa.base Go.Proofs.Ytefjbpkomphjdaa.pairs Go.Proofs.Ytefjbpkomphjdaa.draw
set_option linter.unusedVariables false
set_option linter.unusedSimpArgs false

theorem some_atI (zs : Array Value) (n : Nat) (f : Int → Bool) (h : (List.range n).all (fun i => match zs[i]? with | some (.int .i64 z) => f z | _ => false) = true) : ∀ i, i < n → ∃ z, zs[i]? = some (.int .i64 z) ∧ f z = true := by
  intro i hi
  have := List.all_eq_true.1 h i (List.mem_range.2 hi)
  split at this
  · rename_i z hz; exact ⟨z, hz, this⟩
  · cases this
def GotOd (w0 w : World) (gc : Nat) (a : Option Addr) (len cap : Nat) (code : List UInt8) (e : Ending) (w' : World) : Prop :=
  ∃ o : Od, odOk o = true ∧ e = .returned (.agg #[.int .i64 o.1, .string o.2.1, .string o.2.2]) ∧ Cur w0 w' gc a len cap code ∧ w.grownBy w' (some gc)
theorem odOk_small {o : Od} (h : odOk o = true) : smallO o := by
  obtain ⟨h1, _, h3, h4⟩ := (odOk_iff o).1 h
  have := keyOk_size h3
  exact ⟨WalkArith.wf_i64 (by omega), by unfold maxLen; omega, by unfold maxLen; omega⟩
set_option maxRecDepth 100000 in
set_option maxHeartbeats 2000000 in
theorem d_op1 (w0 w : World) (gc : Nat) (a : Option Addr) (len cap : Nat) (code : List UInt8) (h : Cur w0 w gc a len cap code) :
    Calls Try.prog 54 #[.pointer (some ⟨gc, 0, none⟩)] w fun e w' => GotOd w0 w gc a len cap code e w' := by
  have hcl := h.lt
  have hge := h.ge
  obtain ⟨wa, hwa⟩ : ∃ wa, w.alloc (.cells #[.int .i64 0, .string ⟨#[]⟩, .string ⟨#[]⟩] 53) = wa := ⟨_, rfl⟩
  have hba : Below w.heap.size w wa := by rw [← hwa]; exact (Below.refl _ _).alloc (Nat.le_refl _) _
  have hsa : wa.heap.size = w.heap.size + 1 := by rw [← hwa]; simp
  have hRa : V3 wa w.heap.size 53 (.int .i64 0) (.string ⟨#[]⟩) (.string ⟨#[]⟩) := by rw [← hwa]; exact heap_alloc_new w _
  have HWA := Hid.mk' hwa
  clear hwa
  go_enter Try.func54, Try.ntmps54
  go_wp2_with fail
  rw [HWA.out]
  clear HWA
  have hbb : Below wa.heap.size wa (wa.alloc (.cells #[.int .i64 1, .int .i64 1, .int .i64 1, .int .i64 2, .int .i64 3] 3)) := (Below.refl _ _).alloc (Nat.le_refl _) _
  have hL := heap_alloc_new wa (.cells #[.int .i64 1, .int .i64 1, .int .i64 1, .int .i64 2, .int .i64 3] 3)
  rw [hsa] at hL
  refine (int_ w0 _ gc a len cap code (w.heap.size + 1) 5 5 _ _ ((h.below hba).below hbb) hL rfl (by omega) (by omega) (by omega) (fun z => decide (1 ≤ z ∧ z ≤ 3) = true) (some_atI _ 5 (fun z => decide (1 ≤ z ∧ z ≤ 3)) (by kernel_rfl))).mono ?_
  rintro e w1 ⟨z, hz, rfl, hc1, hg1⟩
  go_wp2_with fail
  refine (d_keyG w0 _ gc a len cap code hc1).mono ?_
  rintro e w2 ⟨key, hkey, rfl, hc2, hg2⟩
  have hR1 := hRa.below hbb
  have hR2 := v3_grown hR1 hg1 (by simp; omega)
  have hR3 := v3_grown hR2 hg2 (by simp; omega)
  have hG2 : w.grownBy w2 (some gc) := grownBy_trans (grown_below (grown_below (World.grownBy.refl _ _) hba) hbb) (grownBy_trans hg1 hg2)
  have hcl2 := hc2.lt
  have hs2 : w.heap.size < w2.heap.size := hR3.lt
  clear hR1 hR2 hRa hL hc1 hg1 hg2 hba
  obtain ⟨w3, hw3⟩ : ∃ w3, w2.alloc (.cells #[.int .i64 z, .string key, .string ⟨#[]⟩] 53) = w3 := ⟨_, rfl⟩
  have hb3 : Below w2.heap.size w2 w3 := by rw [← hw3]; exact (Below.refl _ _).alloc (Nat.le_refl _) _
  have hV3 : V3 w3 w2.heap.size 53 (.int .i64 z) (.string key) (.string ⟨#[]⟩) := by rw [← hw3]; exact heap_alloc_new w2 _
  have hs3 : w3.heap.size = w2.heap.size + 1 := by rw [← hw3]; simp
  have hR4 := hR3.below hb3
  have hc3 := hc2.below hb3
  have hG3 := grown_below hG2 hb3
  have hz' := of_decide_eq_true hz
  have hko := goodK_ok hkey
  have HW3 := Hid.mk' hw3
  clear hw3 hb3 hz hkey
  by_cases hz2 : z = 2
  · subst hz2
    have HOK : Hid (odOk ((2 : Int), key, (⟨#[]⟩ : ByteArray)) = true) := (odOk_iff _).2 ⟨hz', fun _ => rfl, hko, by show (0 : Nat) ≤ 20; omega⟩
    have r0 := hR3.c0
    have r1 := hR3.c1
    have r2 := hR3.c2
    have q0 := v3_fz hR3 0
    have q1 := v3_fz hR3 1
    have q2 := v3_fz hR3 2
    have hfin := (v3_all hR3 (.int .i64 2) (.string key) (.string ⟨#[]⟩)).2
    have hcz := hc2.grown hfin (by simp; omega) (fun k e => by cases e; omega)
    have hgz := grown_own hG2 hfin (Nat.le_refl _)
    have hbz : ∀ W : World, Below W.heap.size W (W.alloc (.cells #[.int .i64 2, .string key, .string ⟨#[]⟩] 53)) := fun W => (Below.refl _ _).alloc (Nat.le_refl _) _
    have HVz := Hid.mk' ((v3_all hR3 (.int .i64 2) (.string key) (.string ⟨#[]⟩)).1.below (hbz _))
    have HCz := Hid.mk' (hcz.below (hbz _))
    have HGz := Hid.mk' (grown_below hgz (hbz _))
    clear hfin hcz hgz hbz hc2 hG2 hR3 hc3 hG3 hV3 hR4 HW3 hs3
    go_wp2_with fail
    refine bodyPost_ret (v := .agg #[.int .i64 2, .string key, .string ⟨#[]⟩]) ?_ rfl ⟨((2 : Int), key, (⟨#[]⟩ : ByteArray)), HOK.out, rfl, HCz.out, HGz.out⟩
    simp [results, Try.results54, go_sem, HVz.out.c0, HVz.out.c1, HVz.out.c2]
  · have hzb : (z == 2) = false := beq_eq_false_iff_ne.2 hz2
    have hzn : ¬ z = 2 := hz2
    clear hz2 hR3 hc2 hG2
    obtain ⟨w4, hw4⟩ : ∃ w4, w3.alloc (.cells #[.string ⟨#[49]⟩, .string ⟨#[50]⟩, .string ⟨#[120]⟩, .string ⟨#[]⟩, .string ⟨#[49]⟩] 9) = w4 := ⟨_, rfl⟩
    have hb4 : Below w3.heap.size w3 w4 := by rw [← hw4]; exact (Below.refl _ _).alloc (Nat.le_refl _) _
    have hL4 : w4.heap[w2.heap.size + 1]? = some (.cells #[.string ⟨#[49]⟩, .string ⟨#[50]⟩, .string ⟨#[120]⟩, .string ⟨#[]⟩, .string ⟨#[49]⟩] 9) := by
      have := heap_alloc_new w3 (.cells #[.string ⟨#[49]⟩, .string ⟨#[50]⟩, .string ⟨#[120]⟩, .string ⟨#[]⟩, .string ⟨#[49]⟩] 9)
      rw [hs3, hw4] at this
      exact this
    have HST := Hid.mk' (str_ w0 w4 gc a len cap code (w2.heap.size + 1) 5 5 _ _ (hc3.below hb4) hL4 rfl (by omega) (by omega) (by omega) (fun z => decide (z.size ≤ 20) = true) (some_atB _ 5 (fun z => decide (z.size ≤ 20)) (by kernel_rfl)))
    rw [← hw4, ← HW3.out] at HST
    have HB4 := Hid.mk' hb4
    have HW4 := Hid.mk' hw4
    clear hw4 hL4 hb4
    go_wp2_with fail
    refine HST.out.mono ?_
    rw [HW3.out, HW4.out]
    rintro e w5 ⟨val, hval, rfl, hc5, hg5⟩
    have hV5 := v3_grown (hV3.below HB4.out) hg5 (by simp; omega)
    have hR5 := v3_grown (hR4.below HB4.out) hg5 (by simp; omega)
    have hG5 := grownBy_trans (grown_below hG3 HB4.out) hg5
    have HOK : Hid (odOk (z, key, val) = true) := (odOk_iff _).2 ⟨hz', fun e => absurd e hzn, hko, of_decide_eq_true hval⟩
    clear HST HB4 HW4 HW3 hV3 hR4 hG3 hc3 hg5
    have t0 := hV5.c0
    have t1 := hV5.c1
    have t2 := hV5.c2
    have t3 := v3_fz hV5 2
    have hset := (v3_set hV5).2.2 (.string val)
    have hR6 := v3_grown hR5 hset.2 (by simp; omega)
    have hc6 := hc5.grown hset.2 (by simp; omega) (fun k e => by cases e; omega)
    have hG6 := grown_own hG5 hset.2 (by omega)
    have r0 := hR5.c0
    have r1 := hR5.c1
    have r2 := hR5.c2
    have q0 := v3_fz hR5 0
    have q1 := v3_fz hR5 1
    have q2 := v3_fz hR5 2
    have hfin := (v3_all hR6 (.int .i64 z) (.string key) (.string val)).2
    have HCz := Hid.mk' (hc6.grown hfin (by simp; omega) (fun k e => by cases e; omega))
    have HGz := Hid.mk' (grown_own hG6 hfin (Nat.le_refl _))
    have hnn : w.heap.size ≠ w2.heap.size := by omega
    clear hfin hc6 hG6 hR6 hset hV5 hR5 hc5 hG5
    go_wp2_with fail
    refine bodyPost_ret (v := .agg #[.int .i64 z, .string key, .string val]) ?_ rfl ⟨(z, key, val), HOK.out, rfl, HCz.out, HGz.out⟩
    simp [results, Try.results54, go_sem, r0, r1, r2]
end Go.Proofs.Ytefjbpkomphjdaa.ords

namespace Go.Proofs.Ytefjbpkomphjdaa.ords
open Go Go.RowKit Go.Proofs.Ytefjbpkomphjdaa.base Go.Proofs.Ytefjbpkomphjdaa.pairs Go.Proofs.Ytefjbpkomphjdaa.draw
set_option linter.unusedVariables false
set_option linter.unusedSimpArgs false

theorem oneGo_has (o : Od) (l : List Od) : o ∈ oneGo o false l := by
  induction l with
  | nil => exact List.mem_singleton.2 rfl
  | cons p l ih =>
    rw [oneGo]
    cases hl : ltB p.2.1 o.2.1
    · exact List.mem_append.2 (.inl (List.mem_append.2 (.inl (by simp))))
    · exact List.mem_append.2 (.inr ih)
def GotOps (w0 w : World) (gc : Nat) (a : Option Addr) (len cap : Nat) (code : List UInt8) (e : Ending) (w' : World) : Prop :=
  ∃ (g n cp : Nat) (l : List Od), n ≤ 4 ∧ opsOk l = true ∧ e = .returned (.slice (some ⟨g, 0, none⟩) n cp) ∧ OwnO w' w.heap.size g n cp l ∧ Cur w0 w' gc a len cap code ∧ w.grownBy w' (some gc)
set_option maxRecDepth 100000 in
set_option maxHeartbeats 2000000 in
theorem d_ops (w0 w : World) (gc : Nat) (a : Option Addr) (len cap : Nat) (code : List UInt8) (h : Cur w0 w gc a len cap code) :
    Calls Try.prog 37 #[.pointer (some ⟨gc, 0, none⟩)] w fun e w' => GotOps w0 w gc a len cap code e w' := by
  have hba : Below w.heap.size w (w.alloc (.cells #[] 53)) := (Below.refl _ _).alloc (Nat.le_refl _) _
  have hcl := h.lt
  go_enter Try.func37, Try.ntmps37
  go_wp2_with fail
  refine (below_ w0 _ gc a len cap code _ (h.below hba) (by omega) (by omega)).mono ?_
  rintro e w1 ⟨x, hx, rfl, hc1, hg1⟩
  have hO1 : OwnO w1 w.heap.size w.heap.size 0 0 [] := (ownO_made w w.heap.size (Nat.le_refl _)).grown hg1 (by simp; omega)
  have hG1 : w.grownBy w1 (some gc) := grown_of_alloc hg1
  clear hg1 hba
  go_wp2_with fail
  go_loopw [3, 4] (fun v i wr => ∃ (k g n cp : Nat) (l : List Od), n + k ≤ 4 ∧ (1 ≤ k ∨ 1 ≤ n) ∧ i = .int .i64 (k : Int) ∧ v = .slice (some ⟨g, 0, none⟩) n cp ∧ (∀ p ∈ l, odOk p = true) ∧ RiseO l ∧ OwnO wr w.heap.size g n cp l ∧ Cur w0 wr gc a len cap code ∧ w.grownBy wr (some gc)) (fun _ i _ => (intOf i).toNat)
  case atStart => exact ⟨x + 1, w.heap.size, 0, 0, [], by omega, .inl (by omega), by go_num, rfl, (fun p hp => absurd hp List.not_mem_nil), List.Pairwise.nil, hO1, hc1, hG1⟩
  case round =>
    clear hO1 hc1 hG1
    obtain ⟨k, g, n, cp, l, hnk, hk1, rfl, rfl, hall, hri, hO, hC, hG⟩ := hrel
    by_cases hk0 : 0 < k
    · have hgne : g ≠ gc := by have := hO.lt; omega
      go_wp2_with fail
      refine (d_op1 w0 _ gc a len cap code hC).mono ?_
      rintro e w2 ⟨o, hok, rfl, hC2, hG2⟩
      have hO2 := hO.grown hG2 (by simpa using hgne)
      have hln := hO2.1
      go_wp2_with fail
      refine (spec_l7One _ n cp l o _ hO2.sl (odOk_small hok) (by omega)).mono ?_
      rintro e w4 ⟨g4, n4, cp4, rfl, hO4, hB4⟩
      have hpl := oneGo_length o false l
      have hhas := List.length_pos_of_mem (oneGo_has o l)
      simp at hpl
      have hn4 : n4 ≤ n + 1 ∧ 1 ≤ n4 := by have := hO4.1; omega
      have hC4 := hC2.below hB4
      have hG4 := grown_below (grownBy_trans hG hG2) hB4
      have hO5 := hO4.mono (base' := w.heap.size) (by have := hG.size; have := hG2.size; omega)
      have hall4 : ∀ p ∈ oneGo o false l, odOk p = true := fun p hp => by
        rcases oneGo_mem hp with h1 | rfl
        · exact hall p h1
        · exact hok
      have hri4 := oneGo_rise (o := o) hri
      generalize oneGo o false l = l4 at *
      clear hO hO2 hO4 hB4 hC hC2 hG hG2 hpl hhas hall hri
      go_wp2_with fail
      go_roundw
      case rel => exact ⟨k - 1, g4, n4, cp4, l4, by omega, .inr hn4.2, by go_num, rfl, hall4, hri4, hO5, hC4, hG4⟩
      case measure => simp [intOf]; omega
    · go_wp2_with fail
      go_ret
      have := hO.1
      exact ⟨g, n, cp, l, by omega, (opsOk_iff l).2 ⟨⟨hall, hri⟩, by omega, by omega⟩, rfl, hO, hC, hG⟩
end Go.Proofs.Ytefjbpkomphjdaa.ords

namespace Go.Proofs.Ytefjbpkomphjdaa.ords
open Go Go.RowKit Go.Proofs.Ytefjbpkomphjdaa.base Go.Proofs.Ytefjbpkomphjdaa.pairs Go.Proofs.Ytefjbpkomphjdaa.draw
set_option linter.unusedVariables false
set_option linter.unusedSimpArgs false

theorem OwnO.none {w : World} {base g n cap : Nat} {l : List Od} (h : OwnO w base g n cap l) : OwnO w base g 0 cap [] := by
  refine ⟨rfl, fun p hp => absurd hp List.not_mem_nil, rfl, ?_⟩
  rcases h.2.2.2 with ⟨h', _⟩ | ⟨g', cap', cur, h', h0, hg, h1, h2, h3, h4⟩
  · simp at h'
  · simp only [Value.slice.injEq, Option.some.injEq, Addr.mk.injEq, and_true, true_and] at h'
    obtain ⟨rfl, rfl⟩ := h'
    exact .inr ⟨g, cap, cur, rfl, h0, hg, Nat.zero_le _, h2, h3, by simp [ordVals]⟩
end Go.Proofs.Ytefjbpkomphjdaa.ords
