/- The program's statements: the texts of orders and of pairs. -/
import Derived.Test.YtefjbpkomphjdaaShah
namespace Go.Proofs.Ytefjbpkomphjdaa.txts
open Go Go.RowKit Go.Proofs.Ytefjbpkomphjdaa.base Go.Proofs.Ytefjbpkomphjdaa.pairs Go.Proofs.Ytefjbpkomphjdaa.ords Go.Proofs.Ytefjbpkomphjdaa.txsh
set_option linter.unusedVariables false
set_option linter.unusedSimpArgs false

/-! ### values with other bytes -/
def unsp (r : Nat) : Bool := !(decide (r < 128) && keyCh r)
theorem idx_from (s : ByteArray) (f pos : Nat) (h : s.size ≤ pos + f) : decide (0 ≤ Lib.idxFuncFrom unsp true s f pos) = !keyAll (s.data.toList.drop pos) := by
  induction f generalizing pos with
  | zero => rw [List.drop_eq_nil_of_le (by rw [size_len]; omega)]; rfl
  | succ f ih =>
    by_cases hp : pos < s.size
    · have hk := keyAll_drop s pos hp
      unfold Lib.idxFuncFrom
      rw [if_pos hp]
      by_cases hb : s[pos].toNat < 128
      · have hd := decode_ascii s pos hp hb
        rw [hd, hk]
        simp only []
        cases hc : keyCh s[pos].toNat
        · rw [if_pos (by unfold unsp; rw [hc]; simp)]; simp
        · rw [if_neg (by unfold unsp; rw [hc, decide_eq_true hb]; simp), ih (pos + 1) (by omega)]; simp
      · obtain ⟨h1, _, _⟩ := decode_high s pos hp (by omega)
        rw [if_pos (by unfold unsp; rw [decide_eq_false (by omega)]; rfl), hk]
        have : keyCh s[pos].toNat = false := by unfold keyCh; simp; omega
        rw [this]; simp
    · rw [Lib.idxFuncFrom_end _ _ _ _ _ hp, List.drop_eq_nil_of_le (by rw [size_len]; omega)]; rfl
theorem idx_all (s : ByteArray) : decide (0 ≤ Lib.idxFunc unsp true s) = !keyAll s.data.toList := by
  have := idx_from s s.size 0 (by omega)
  rw [List.drop_zero] at this
  exact this
set_option maxHeartbeats 400000 in
theorem i_un1 (c : Nat) (w : World) (hc : c ≤ 1114111) :
    Calls Try.prog 58 #[.int .i32 (c : Int)] w fun e w' => e = .returned (.bool (unsp c)) ∧ w' = w := by
  have HP := i_plainSign c w hc
  unfold unsp
  generalize (decide (c < 128) && keyCh c) = K at *
  have HP := Hid.mk' HP
  cases K
  all_goals
    go_enter Try.func58, Try.ntmps58
    go_wp2_with fail
    refine HP.out.mono ?_
    rintro e w1 ⟨rfl, rfl⟩
    go_wp2_with fail
    go_ret
    exact ⟨rfl, rfl⟩
theorem un_grows (w : World) : PredGrows Try.prog 58 #[] unsp w := fun W x hx _ =>
  (i_un1 x W hx).mono fun e w' ⟨he, hw⟩ => ⟨he, by rw [hw]; exact Below.refl _ _⟩
set_option maxHeartbeats 1000000 in
theorem i_unspoken (o : Od) (w : World) :
    Calls Try.prog 32 #[.agg #[.int .i64 o.1, .string o.2.1, .string o.2.2]] w fun e w' => e = .returned (.bool (!keyAll o.2.2.data.toList)) ∧ Below w.heap.size w w' := by
  have hb : Below w.heap.size w (w.alloc (.cells #[.int .i64 o.1, .string o.2.1, .string o.2.2] 53)) := (Below.refl _ _).alloc (Nat.le_refl _) _
  have HC := fun W => strings_ContainsFunc_grows 58 #[] (enters_of Try.func58 (by kernel_rfl) rfl) unsp o.2.2 W (un_grows W)
  rw [idx_all] at HC
  generalize (!keyAll o.2.2.data.toList) = K at *
  have HC := Hid.mk' HC
  go_enter Try.func32, Try.ntmps32
  go_wp2_with fail
  refine (HC.out _).mono ?_
  rintro e w1 ⟨rfl, hb1⟩
  go_wp2_with fail
  go_ret
  exact ⟨rfl, hb.trans (hb1.mono hb.size)⟩

def spokenAll (l : List Od) : Bool := l.all fun o => keyAll o.2.2.data.toList
set_option maxRecDepth 100000 in
set_option maxHeartbeats 1000000 in
theorem i_indexUn (b len cap : Nat) (l : List Od) (w : World) (h : SlO w (some ⟨b, 0, none⟩) len l) :
    Calls Try.prog 56 #[.slice (some ⟨b, 0, none⟩) len cap, .func (.func 32) #[] #[]] w fun e w' => ∃ z : Int, e = .returned (.int .i64 z) ∧ spokenAll l = decide (z < 0) ∧ Below w.heap.size w w' := by
  have hl := h.1
  subst hl
  have hmx := h.2.1
  unfold maxLen at hmx
  go_enter Try.func56, Try.ntmps56
  go_wp2_with fail
  go_loopw [8] (fun i wr => ∃ k : Nat, k ≤ l.length ∧ i = .int .i64 (k : Int) ∧ (∀ j (hj : j < k) (hl : j < l.length), keyAll l[j].2.2.data.toList = true) ∧ Below w.heap.size w wr) (fun i _ => l.length - (intOf i).toNat)
  case atStart => exact ⟨0, Nat.zero_le _, rfl, fun j hj => absurd hj (by omega), Below.refl _ _⟩
  case round =>
    obtain ⟨k, hk, rfl, hno, hB⟩ := hrel
    have HNO := Hid.mk' hno
    clear hno
    by_cases hlt : k < l.length
    · have hS := h.below hB
      obtain ⟨c0, c1, c2⟩ := hS.cells k hlt
      simp only [Nat.zero_add] at c0 c1 c2
      have hki : (k : Int) < (l.length : Int) := by omega
      have HC := Hid.mk' (i_unspoken l[k] wr)
      clear hS
      cases hr : keyAll l[k].2.2.data.toList with
      | false =>
        have HF : Hid (spokenAll l = false) := by
          show _ = _
          unfold spokenAll
          rw [List.all_eq_false]
          exact ⟨l[k], List.getElem_mem hlt, by rw [hr]; simp⟩
        rw [hr] at HC
        clear hr
        generalize l[k] = o at *
        go_wp2_with fail
        refine HC.out.mono ?_
        rintro e w1 ⟨rfl, hb1⟩
        go_wp2_with fail
        go_ret
        exact ⟨_, rfl, by rw [HF.out]; symm; rw [decide_eq_false_iff_not]; omega, hB.trans (hb1.mono hB.size)⟩
      | true =>
        have HF : Hid (∀ j (hj : j < k + 1) (hl : j < l.length), keyAll l[j].2.2.data.toList = true) := fun j hj hl => by
          by_cases hjk : j = k
          · subst hjk; exact hr
          · exact HNO.out j (by omega) hl
        rw [hr] at HC
        clear hr
        generalize l[k] = o at *
        go_wp2_with fail
        refine HC.out.mono ?_
        rintro e w1 ⟨rfl, hb1⟩
        go_wp2_with fail
        go_roundw
        case rel => exact ⟨k + 1, by omega, by go_num, HF.out, hB.trans (hb1.mono hB.size)⟩
        case measure => simp [intOf]; omega
    · have hki : ¬ (k : Int) < (l.length : Int) := by omega
      have HF : Hid (spokenAll l = true) := by
        show _ = _
        unfold spokenAll
        rw [List.all_eq_true]
        intro r hr
        obtain ⟨j, hj, rfl⟩ := List.getElem_of_mem hr
        exact HNO.out j (by omega) hj
      go_wp2_with fail
      go_ret
      exact ⟨_, rfl, by rw [HF.out]; rfl, hB⟩
set_option maxRecDepth 100000 in
theorem i_containsUn (b len cap : Nat) (l : List Od) (w : World) (h : SlO w (some ⟨b, 0, none⟩) len l) :
    Calls Try.prog 31 #[.slice (some ⟨b, 0, none⟩) len cap, .func (.func 32) #[] #[]] w fun e w' => e = .returned (.bool (!spokenAll l)) ∧ Below w.heap.size w w' := by
  have HC := Hid.mk' (i_indexUn b len cap l w h)
  clear h
  go_enter Try.func31, Try.ntmps31
  go_wp2_with fail
  refine HC.out.mono ?_
  rintro e w1 ⟨z, rfl, hz, hb1⟩
  have HZ := Hid.mk' hz
  clear hz
  by_cases h0 : z ≥ 0
  · go_wp2_with fail
    go_ret
    exact ⟨by rw [HZ.out, decide_eq_false (show ¬ z < 0 by omega)]; first | rfl | simp [h0], hb1⟩
  · go_wp2_with fail
    go_ret
    exact ⟨by rw [HZ.out, decide_eq_true (show z < 0 by omega)]; first | rfl | simp [h0], hb1⟩

/-! ### one order, one pair -/
set_option maxHeartbeats 1000000 in
theorem i_prText (p : Pr) (w : World) (h1 : p.1.size ≤ 1099511627776) (h2 : p.2.size ≤ 1099511627776) :
    Calls Try.prog 46 #[.agg #[.string p.1, .string p.2]] w fun e w' => e = .returned (.string ⟨(prText p).toArray⟩) ∧ Below w.heap.size w w' := by
  have hb : Below w.heap.size w (w.alloc (.cells #[.string p.1, .string p.2] 36)) := (Below.refl _ _).alloc (Nat.le_refl _) _
  obtain ⟨u1, hu1⟩ : ∃ u1, u1 = p.1 ++ (⟨#[61]⟩ : ByteArray) := ⟨_, rfl⟩
  obtain ⟨u2, hu2⟩ : ∃ u2, u2 = u1 ++ p.2 := ⟨_, rfl⟩
  have s1 : u1.size = p.1.size + 1 := app_size hu1
  have a1 := add_str p.1 ⟨#[61]⟩ u1 hu1 (by show p.1.size + 1 ≤ _; omega)
  have a2 := add_str u1 p.2 u2 hu2 (by omega)
  have HJ : Hid (u2 = (⟨(prText p).toArray⟩ : ByteArray)) := by
    show _ = _
    apply bytes_ext
    rw [app_list hu2, app_list hu1]
    simp [prText]
  clear hu1 hu2 s1
  go_enter Try.func46, Try.ntmps46
  go_wp2_with fail
  go_ret
  exact ⟨by rw [HJ.out]; rfl, hb⟩
set_option maxRecDepth 100000 in
set_option maxHeartbeats 1000000 in
theorem i_odText (o : Od) (w : World) (hk : 1 ≤ o.1 ∧ o.1 ≤ 3) (h1 : o.2.1.size ≤ 1099511627776) (h2 : o.2.2.size ≤ 1099511627776) :
    Calls Try.prog 34 #[.agg #[.int .i64 o.1, .string o.2.1, .string o.2.2]] w fun e w' => e = .returned (.string ⟨(odText o).toArray⟩) ∧ Below w.heap.size w w' := by
  obtain ⟨z, key, val⟩ := o
  simp only [] at hk h1 h2 ⊢
  have hb := fun z : Int => (Below.refl w.heap.size w).alloc (Nat.le_refl _) (.cells #[.int .i64 z, .string key, .string val] 53)
  by_cases z1 : z = 1
  · subst z1
    have HP := fun W => i_prText (key, val) W h1 h2
    have e : prText (key, val) = odText (1, key, val) := by simp [prText, odText]
    rw [e] at HP
    have HP := Hid.mk' HP
    go_enter Try.func34, Try.ntmps34
    go_wp2_with fail
    refine (HP.out _).mono ?_
    rintro e w1 ⟨rfl, hb1⟩
    go_wp2_with fail
    go_ret
    exact ⟨rfl, (hb 1).trans (hb1.mono (hb 1).size)⟩
  · by_cases z2 : z = 2
    · subst z2
      obtain ⟨u2, hu2⟩ : ∃ u2, u2 = (⟨#[45]⟩ : ByteArray) ++ key := ⟨_, rfl⟩
      have a2 := add_str ⟨#[45]⟩ key u2 hu2 (by show 1 + key.size ≤ _; omega)
      have HJ : Hid (u2 = (⟨(odText (2, key, val)).toArray⟩ : ByteArray)) := by
        show _ = _
        apply bytes_ext
        rw [app_list hu2]
        simp [odText]
      clear hu2
      go_enter Try.func34, Try.ntmps34
      go_wp2_with fail
      go_ret
      exact ⟨by rw [HJ.out]; rfl, hb 2⟩
    · obtain rfl : z = 3 := by omega
      obtain ⟨u1, hu1⟩ : ∃ u1, u1 = key ++ (⟨#[63]⟩ : ByteArray) := ⟨_, rfl⟩
      obtain ⟨u2, hu2⟩ : ∃ u2, u2 = u1 ++ val := ⟨_, rfl⟩
      have s1 : u1.size = key.size + 1 := app_size hu1
      have a1 := add_str key ⟨#[63]⟩ u1 hu1 (by show key.size + 1 ≤ _; omega)
      have a2 := add_str u1 val u2 hu2 (by omega)
      have HJ : Hid (u2 = (⟨(odText (3, key, val)).toArray⟩ : ByteArray)) := by
        show _ = _
        apply bytes_ext
        rw [app_list hu2, app_list hu1]
        simp [odText]
      clear hu1 hu2 s1
      go_enter Try.func34, Try.ntmps34
      go_wp2_with fail
      go_ret
      exact ⟨by rw [HJ.out]; rfl, hb 3⟩

/-! ### all of them -/
def baOf (l : List UInt8) : ByteArray := ⟨l.toArray⟩
theorem baOf_list (ts : List (List UInt8)) : (ts.map baOf).map (·.data.toList) = ts := by
  rw [List.map_map]
  have e : ((fun s : ByteArray => s.data.toList) ∘ baOf) = id := by funext l; simp [baOf]
  rw [e, List.map_id]

set_option maxRecDepth 100000 in
set_option maxHeartbeats 2000000 in
theorem i_spokenO (b len cap : Nat) (l : List Od) (w : World) (h : SlO w (some ⟨b, 0, none⟩) len l) (hlen : len ≤ 1099511627776) (hks : ∀ o ∈ l, (1 ≤ o.1 ∧ o.1 ≤ 3) ∧ o.2.1.size ≤ 1099511627776 ∧ o.2.2.size ≤ 1099511627776) (hrm : room (l.map odText) ≤ 1099511627776) :
    Calls Try.prog 33 #[.slice (some ⟨b, 0, none⟩) len cap, .func (.func 34) #[] #[]] w fun e w' => e = .returned (.string ⟨(Lib.join (l.map odText) [32]).toArray⟩) ∧ Below w.heap.size w w' := by
  have hl := h.1
  subst hl
  obtain ⟨i0, hi, hz0, hz1, hz2⟩ := info_parts info9
  have HKS := Hid.mk' hks
  clear hks
  have hsz : ∀ o ∈ l, (baOf (odText o)).size ≤ maxLen := fun o ho => by
    have := lens_mem (l.map odText) (odText o) (List.mem_map.2 ⟨o, ho, rfl⟩)
    unfold room at hrm
    unfold baOf
    rw [ba_size]
    unfold maxLen
    omega
  have HSZ := Hid.mk' hsz
  clear hsz
  obtain ⟨ts, hts⟩ : ∃ ts, ts = l.map (fun o => baOf (odText o)) := ⟨_, rfl⟩
  have HTS := Hid.mk' hts
  clear hts
  go_enter Try.func33, Try.ntmps33
  go_wp2_with (at_make; refine wpList_make_own _ rfl _ _ 66 rfl w.heap.size 9 i0 (.string ⟨#[]⟩) 1 Try.underlying66 hi hz0 hz1 _ _ _ l.length rfl rfl rfl ?b2 ?b3 ?b4 ?_)
  case b2 => rw [hz2]; omega
  case b3 => unfold maxLen; omega
  case b4 => exact Nat.le_refl _
  intro w1 hown hgrow
  have hO1 : OwnS w1 w.heap.size w.heap.size 0 l.length (ts.take 0) := ⟨rfl, fun s hs => absurd hs List.not_mem_nil, hown⟩
  have hB1 : Below w.heap.size w w1 := (Below.refl _ _).grown hgrow (Nat.le_refl _) (fun k e => by cases e)
  clear hown hgrow
  go_wp2_with fail
  go_loopw [5, 13] (fun o i wr => ∃ (k g cp : Nat), o = .slice (some ⟨g, 0, none⟩) k cp ∧ i = .int .i64 (k : Int) ∧ k ≤ l.length ∧ OwnS wr w.heap.size g k cp (ts.take k) ∧ Below w.heap.size w wr) (fun o i _ => l.length - (intOf i).toNat)
  case atStart => exact ⟨0, w.heap.size, l.length, rfl, rfl, Nat.zero_le _, hO1, hB1⟩
  case round =>
    obtain ⟨k, g, cp, rfl, rfl, hk, hO, hB⟩ := hrel
    clear hO1 hB1
    by_cases hlt : k < l.length
    · have hki : (k : Int) < (l.length : Int) := by omega
      have hS := h.below hB
      obtain ⟨c0, c1, c2⟩ := hS.cells k hlt
      simp only [Nat.zero_add] at c0 c1 c2
      have hko := HKS.out _ (List.getElem_mem hlt)
      have HC := Hid.mk' (fun W => i_odText l[k] W hko.1 hko.2.1 hko.2.2)
      have HZ := Hid.mk' (HSZ.out _ (List.getElem_mem hlt))
      have HT : Hid (ts.take k ++ [baOf (odText l[k])] = ts.take (k + 1)) := by
        show _ = _
        have htk : k < ts.length := by rw [HTS.out, List.length_map]; exact hlt
        have hge : ts[k] = baOf (odText l[k]) := by simp only [HTS.out, List.getElem_map]
        rw [List.take_succ_eq_append_getElem htk, hge]
      clear hko hS
      generalize l[k] = o at *
      have hbw := hB.size
      have hc3 : k + 1 ≤ maxLen := by unfold maxLen; omega
      have hc4 : (k + 1) * 16 ≤ 140737488355328 := by omega
      have hba : Below wr.heap.size wr (wr.alloc (.cells #[.int .i64 o.1, .string o.2.1, .string o.2.2] 53)) := (Below.refl _ _).alloc (Nat.le_refl _) _
      go_wp2_with fail
      refine (HC.out _).mono ?_
      rintro e w2 ⟨rfl, hb2⟩
      have hbb := hba.trans (hb2.mono hba.size)
      have hO4 := hO.below hbb
      have hB4 := hB.trans (hbb.mono hB.size)
      have hbw4 := hB4.size
      clear hO hB hba hb2 hbb c0 c1 c2
      go_wp2_with (at_builtin; refine wpList_append_own _ rfl _ _ 66 rfl w.heap.size 9 i0 (.string ⟨#[]⟩) 1 16 Try.underlying66 hi hz0 hz1 hz2 rfl (by decide) _ _ _ rfl (hO4.2.2.alloc _) ⟨w2.heap.size, 0, none⟩ 1 1 [_] rfl rfl (cell_one_new _ _ _) (str_oneCell _) hc3 hc4 (leAlloc _ _ hbw4) ?_)
      intro v3 w3 hown hgrow hnn
      rw [← strVals_snoc] at hown
      obtain ⟨g3, cp3, hv, hO3⟩ := ownS_val (by have := hO4.1; rw [List.length_append]; simp only [List.length_cons, List.length_nil]; omega) (by
        intro x hx
        rcases List.mem_append.1 hx with hx | hx
        · exact hO4.2.1 x hx
        · simp at hx; subst hx; exact HZ.out) hnn hown
      subst hv
      have hB3 : Below w.heap.size w w3 := (hB4.alloc hbw4 _).grown hgrow (leAlloc _ _ hbw4) (fun k e => by simp [Value.ownBlock] at e; have := hO4.lt; omega)
      rw [show ([(⟨(odText o).toArray⟩ : ByteArray)] : List ByteArray) = [baOf (odText o)] from rfl, HT.out] at hO3
      have HO3 := Hid.mk' hO3
      clear hown hgrow hnn hO4 hO3 hB4
      go_wp2_with fail
      go_roundw
      case rel => exact ⟨k + 1, g3, cp3, rfl, by go_num, by omega, HO3.out, hB3⟩
      case measure => simp [intOf]; omega
    · have hki : ¬ (k : Int) < (l.length : Int) := by omega
      obtain rfl : k = l.length := by omega
      have hmm : ts = (l.map odText).map baOf := by rw [HTS.out, List.map_map]; rfl
      have htl : ts.length = l.length := by rw [HTS.out, List.length_map]
      rw [List.take_of_length_le (by omega)] at hO
      have hcap := hO.cases
      have hjl : (Lib.join (ts.map (·.data.toList)) [32]).length ≤ 140737488355328 := by
        rw [hmm, baOf_list]
        have := join_room (l.map odText)
        omega
      have hat := hO.at
      have HJ := strings_Join g 0 cp ts ⟨#[32]⟩ wr (by
        intro j x hx
        obtain ⟨hj, e⟩ := List.getElem?_eq_some_iff.1 hx
        rw [Nat.zero_add, hat j hj, e]) hO.lt.2 (by omega) (by omega) hjl
      rw [htl, hmm] at HJ
      rw [baOf_list] at HJ
      have HJ := Hid.mk' HJ
      clear hat hjl hcap hO
      go_wp2_with fail
      refine HJ.out.mono ?_
      rintro e w2 ⟨rfl, hb2⟩
      go_wp2_with fail
      go_ret
      exact ⟨rfl, hB.trans (hb2.mono hB.size)⟩

set_option maxRecDepth 100000 in
set_option maxHeartbeats 1000000 in
theorem impl_opsText (b len cap : Nat) (l : List Od) (w : World) (h : SlO w (some ⟨b, 0, none⟩) len l) (hks : ∀ p ∈ l, p.2.1.size ≤ 1099511627776) :
    Calls Try.prog 11 #[.slice (some ⟨b, 0, none⟩) len cap] w fun e w' => e = .returned (.string ⟨(opsText l).toArray⟩) ∧ Below w.heap.size w w' := by
  have hl := h.1
  subst hl
  have HO := impl_opsOk b 0 l.length cap l w h hks
  cases hq : opsOk l
  · rw [hq] at HO
    have HO := Hid.mk' HO
    have HF : Hid (opsText l = []) := opsText_no (.inl hq)
    clear hq
    go_enter Try.func11, Try.ntmps11
    go_wp2_with fail
    refine HO.out.mono ?_
    rintro e w1 ⟨rfl, hB1⟩
    go_wp2_with fail
    go_ret
    exact ⟨ret_str (by rw [HF.out]), hB1⟩
  · rw [hq] at HO
    have HO := Hid.mk' HO
    obtain ⟨⟨hall, _⟩, hl1, hl8⟩ := (opsOk_iff l).1 hq
    have hpe : (l.all fun o => plainS o.2.2) = spokenAll l := by
      unfold spokenAll
      rw [Bool.eq_iff_iff, List.all_eq_true, List.all_eq_true]
      constructor
      · intro hx o ho; have := hx o ho; unfold plainS at this; exact (Bool.and_eq_true_iff.1 this).1
      · intro hx o ho
        unfold plainS
        rw [hx o ho, decide_eq_true ((odOk_iff o).1 (hall o ho)).2.2.2]; rfl
    have HC := fun W (hS : SlO W (some ⟨b, 0, none⟩) l.length l) => i_containsUn b l.length cap l W hS
    cases hs : spokenAll l
    · rw [hs] at HC
      have HC := Hid.mk' HC
      have HF : Hid (opsText l = []) := opsText_no (.inr (hpe.trans hs))
      clear hq hall hpe hs
      go_enter Try.func11, Try.ntmps11
      go_wp2_with fail
      refine HO.out.mono ?_
      rintro e w1 ⟨rfl, hB1⟩
      go_wp2_with fail
      refine (HC.out _ (h.below hB1)).mono ?_
      rintro e w2 ⟨rfl, hB2⟩
      go_wp2_with fail
      go_ret
      exact ⟨ret_str (by rw [HF.out]), hB1.trans (hB2.mono hB1.size)⟩
    · rw [hs] at HC
      have HC := Hid.mk' HC
      have hrm := texts_room hq
      have HF : Hid ((⟨(opsText l).toArray⟩ : ByteArray) = ⟨(Lib.join (l.map odText) [32]).toArray⟩) := by
        show _ = _; unfold opsText; rw [if_pos ⟨hq, hpe.trans hs⟩]
      have HS := Hid.mk' (fun W (hS : SlO W (some ⟨b, 0, none⟩) l.length l) => i_spokenO b l.length cap l W hS (by omega) (fun o ho => by
        obtain ⟨h1, _, h3, h4⟩ := (odOk_iff o).1 (hall o ho)
        have := keyOk_size h3
        exact ⟨h1, by omega, by omega⟩) (by omega))
      clear hq hall hpe hs
      go_enter Try.func11, Try.ntmps11
      go_wp2_with fail
      refine HO.out.mono ?_
      rintro e w1 ⟨rfl, hB1⟩
      go_wp2_with fail
      refine (HC.out _ (h.below hB1)).mono ?_
      rintro e w2 ⟨rfl, hB2⟩
      have hB3 := hB1.trans (hB2.mono hB1.size)
      go_wp2_with fail
      refine (HS.out _ (h.below hB3)).mono ?_
      rintro e w3 ⟨rfl, hB4⟩
      go_wp2_with fail
      go_ret
      exact ⟨by rw [HF.out]; rfl, hB3.trans (hB4.mono hB3.size)⟩
end Go.Proofs.Ytefjbpkomphjdaa.txts
