/- The program's shards and words of a world: whether they are right. Plain mathematics: what the program's steps for one who decides come to. Choices that stand in a map by a struct, and the program's questions to it. The program's choices, read into a map. -/
import Derived.Test.YtijplooogplccaaGreatShbf
import Derived.Test.YtijplooogplccaaGreatShbg
import Derived.Test.YtijplooogplccaaGreatShac
import Derived.Test.YtijplooogplccaaGreatShaf
import Derived.Test.YtijplooogplccaaGreatShaj
import Derived.Test.YtijplooogplccaaGreatShad
import Derived.Maps.OwnSet
import Derived.Maps.OwnOps
import Derived.Maps.Views
import Derived.DeepKeys4
import Derived.BigQuiet
import Derived.Handy
namespace Go.Proofs.YtijplooogplccaaGreat.wos
open Go Go.RowKit Go.Proofs.YtijplooogplccaaGreat.base Go.Proofs.YtijplooogplccaaGreat.pairs Go.Proofs.YtijplooogplccaaGreat.ords Go.Proofs.YtijplooogplccaaGreat.lay
set_option linter.unusedVariables false
set_option linter.unusedSimpArgs false

def PlainS (w : World) (a : Option Addr) (n : Nat) : Prop := ∀ b off, a = some ⟨b, off, none⟩ → ∀ i, i < n → ∀ la ln lc, w.cell? ⟨b, off + i * 5 + 1, none⟩ = some (.slice la ln lc) → recs.PlainR w la ln
set_option maxRecDepth 100000 in
set_option maxHeartbeats 4000000 in
theorem i_shardsOk (a : Option Addr) (n cap : Nat) (l : List recs.Shd) (m : Int) (w : World) (h : SlG shardR w a n l) (hp : PlainS w a n) (hf : ∀ s ∈ l, recs.Few s.2.1 ∧ s.2.1.length ≤ 1048576 ∧ s.2.2.2.2.length ≤ 1048576) :
    Calls Tryz.prog 25 #[.slice a n cap, .int .i64 m] w fun e w' => e = .returned (.bool (decide ((n : Int) = m) && shsO l)) ∧ Below w.heap.size w w' := by
  have hm := h.2.1
  unfold maxLen at hm
  have HLL := Hid.mk' h.1
  have HR : Hid ((decide ((n : Int) = m) && shsO l) = (decide ((n : Int) = m) && (List.range n).all (shA l))) := by show _ = _; unfold shsO; rw [h.1]
  have HFW := Hid.mk' hf
  generalize (decide ((n : Int) = m) && shsO l) = R at *
  clear hf
  by_cases eN : (n : Int) = m
  · have dN : ((n : Int) != m) = false := by simp [eN]
    have HR5 : Hid (R = (List.range n).all (shA l)) := by show _ = _; rw [HR.out]; simp [eN]
    clear HR eN
    go_enter Tryz.func25, Tryz.ntmps25
    go_wp2_with fail
    go_loopw [13] (fun i wr => ∃ k : Nat, k ≤ n ∧ i = .int .i64 (k : Int) ∧ Below w.heap.size w wr ∧ ∀ j, j < k → shA l j = true) (fun i _ => n - (intOf i).toNat)
    case atStart => exact ⟨0, Nat.zero_le _, rfl, Below.refl _ _, fun j hj => absurd hj (Nat.not_lt_zero _)⟩
    case round =>
      obtain ⟨k, hk, rfl, hb, hno⟩ := hrel
      have HNO := Hid.mk' hno
      clear hno
      by_cases hlt : k < n
      · have hki : (k : Int) < (n : Int) := by omega
        have hkl : k < l.length := by have := HLL.out; omega
        obtain ⟨b, off, hsa⟩ := cos.slg_some h (by omega)
        subst hsa
        obtain ⟨rla, rln, rlc, rma, rmn, rmc, rha, rhn, rhc, q0, q1, q2, q3, q4, hsee0⟩ := shard_at h k hkl
        have hpr := hp b off rfl k hlt rla rln rlc q1
        have s0 := (hb.cell (p := ⟨b, off + k * 5, none⟩) (World.block_lt_of_cell? _ _ q0)).trans q0
        have s1 := (hb.cell (p := ⟨b, off + k * 5 + 1, none⟩) (World.block_lt_of_cell? _ _ q1)).trans q1
        have s2 := (hb.cell (p := ⟨b, off + k * 5 + 2, none⟩) (World.block_lt_of_cell? _ _ q2)).trans q2
        have s3 := (hb.cell (p := ⟨b, off + k * 5 + 3, none⟩) (World.block_lt_of_cell? _ _ q3)).trans q3
        have s4 := (hb.cell (p := ⟨b, off + k * 5 + 4, none⟩) (World.block_lt_of_cell? _ _ q4)).trans q4
        have HV : Hid (shA l k = (decide (l[k].1 = (k : Int)) && recs.shardOk l[k])) := shA_at hkl
        have HP : Hid ((shA l k = false → R = false) ∧ (shA l k = true → ∀ j, j < k + 1 → shA l j = true)) := ⟨fun e => by rw [HR5.out, range_miss hlt e], upto_next HNO.out⟩
        have hfs := HFW.out _ (List.getElem_mem hkl)
        generalize shA l k = hv at *
        generalize l[k] = s at *
        obtain ⟨u1, hu1⟩ : ∃ u1, wr.alloc (.cells #[.int .i64 s.1, .slice rla rln rlc, .int .i64 s.2.2.1, .slice rma rmn rmc, .slice rha rhn rhc] 55) = u1 := ⟨_, rfl⟩
        have hbu : Below wr.heap.size wr u1 := by rw [← hu1]; exact below_make
        have hX := boxIn_new wr [.int .i64 s.1, .slice rla rln rlc, .int .i64 s.2.2.1, .slice rma rmn rmc, .slice rha rhn rhc] 55
        rw [hu1] at hX
        have hbw := hb.trans (hbu.mono hb.size)
        have HSO := Hid.mk' (recs.impl_shardOk rla rln rlc rma rmn rmc rha rhn rhc s u1 (hsee0.below hbw) (recs.plain_below hsee0.log hpr hbw) hfs.1 (by have := hsee0.log.1; omega) (by have := hsee0.held.1; omega))
        obtain ⟨x0, x1, x2, x3, x4⟩ := cells5 hX
        rw [← hu1] at x0 x1 x2 x3 x4
        have HU := Hid.mk' hu1
        generalize recs.shardOk s = r at *
        clear hsee0 hpr hu1 q0 q1 q2 q3 q4 hfs
        by_cases e : s.1 = (k : Int)
        · have d1 : (s.1 != (k : Int)) = false := by simp [e]
          cases r
          · have HF := Hid.mk' (HP.out.1 (by rw [HV.out]; simp))
            clear HP HV e
            go_wp2_with fail
            rw [HU.out]
            refine HSO.out.mono ?_
            rintro e w9 ⟨rfl, hb9⟩
            clear x0 x1 x2 x3 x4 s0 s1 s2 s3 s4 HSO HU
            go_wp2_with fail
            go_ret
            exact ⟨by rw [HF.out]; rfl, hbw.trans (hb9.mono hbw.size)⟩
          · have HF := Hid.mk' (HP.out.2 (by rw [HV.out]; simp [e]))
            clear HP HV e
            go_wp2_with fail
            rw [HU.out]
            refine HSO.out.mono ?_
            rintro e w9 ⟨rfl, hb9⟩
            clear x0 x1 x2 x3 x4 s0 s1 s2 s3 s4 HSO HU
            go_wp2_with fail
            go_roundw
            case rel => exact ⟨k + 1, by omega, by go_num, hbw.trans (hb9.mono hbw.size), HF.out⟩
            case measure => simp [intOf]; omega
        · have d1 : (s.1 != (k : Int)) = true := by simp [e]
          have HF := Hid.mk' (HP.out.1 (by rw [HV.out]; simp [e]))
          clear HP HV e HSO
          go_wp2_with fail
          go_ret
          rw [HU.out]
          exact ⟨by rw [HF.out]; rfl, hbw⟩
      · have hki : ¬ (k : Int) < (n : Int) := by omega
        have HF : Hid (R = true) := by show _ = _; rw [HR5.out, range_every (fun j hj => HNO.out j (by omega))]
        go_wp2_with fail
        go_ret
        exact ⟨by rw [HF.out]; rfl, hb⟩
  · have dN : ((n : Int) != m) = true := by simp [eN]
    have HF : Hid (R = false) := by show _ = _; rw [HR.out]; simp [eN]
    clear HR eN
    go_enter Tryz.func25, Tryz.ntmps25
    go_wp2_with fail
    go_ret
    exact ⟨by rw [HF.out]; rfl, Below.refl _ _⟩
set_option maxRecDepth 100000 in
set_option maxHeartbeats 4000000 in
theorem i_wordsOk (a : Option Addr) (n cap : Nat) (l : List wds.Wd) (m : Int) (w : World) (h : SlG cos.wordR w a n l) (hks : ∀ y ∈ l, ∀ p ∈ y.2.2.2.1, p.2.1.size ≤ 1099511627776) :
    Calls Tryz.prog 26 #[.slice a n cap, .int .i64 m] w fun e w' => e = .returned (.bool (wordsO m l)) ∧ Below w.heap.size w w' := by
  have hm := h.2.1
  unfold maxLen at hm
  have HLL := Hid.mk' h.1
  have HR : Hid (wordsO m l = (decide (n ≤ 400) && (List.range n).all (holdsAt (wordA m) l))) := by show _ = _; unfold wordsO; rw [all_at, h.1]
  have HKS := Hid.mk' hks
  generalize wordsO m l = R at *
  clear hks
  by_cases eN : n ≤ 400
  · have HR5 : Hid (R = (List.range n).all (holdsAt (wordA m) l)) := by show _ = _; rw [HR.out]; simp [eN]
    have eNi : ¬ (400 : Int) < (n : Int) := by omega
    clear HR eN
    go_enter Tryz.func26, Tryz.ntmps26
    go_wp2_with fail
    go_loopw [12] (fun i wr => ∃ k : Nat, k ≤ n ∧ i = .int .i64 (k : Int) ∧ Below w.heap.size w wr ∧ ∀ j, j < k → holdsAt (wordA m) l j = true) (fun i _ => n - (intOf i).toNat)
    case atStart => exact ⟨0, Nat.zero_le _, rfl, Below.refl _ _, fun j hj => absurd hj (Nat.not_lt_zero _)⟩
    case round =>
      obtain ⟨k, hk, rfl, hb, hno⟩ := hrel
      have HNO := Hid.mk' hno
      clear hno
      by_cases hlt : k < n
      · have hki : (k : Int) < (n : Int) := by omega
        have hkl : k < l.length := by have := HLL.out; omega
        obtain ⟨b, off, hsa⟩ := cos.slg_some h (by omega)
        subst hsa
        obtain ⟨oa', ol', oc', c0, c1, c2, c3, c4, hSo, _, _⟩ := word_at (h.below hb) k hkl
        have HV : Hid (holdsAt (wordA m) l k = (wds.wordOk l[k] && decide (l[k].2.1 < m))) := by show _ = _; rw [holdsAt_at hkl]; rfl
        have HP : Hid ((holdsAt (wordA m) l k = false → R = false) ∧ (holdsAt (wordA m) l k = true → ∀ j, j < k + 1 → holdsAt (wordA m) l j = true)) := ⟨fun e => by rw [HR5.out, range_miss hlt e], upto_next HNO.out⟩
        have HK := Hid.mk' (HKS.out _ (List.getElem_mem hkl))
        generalize holdsAt (wordA m) l k = hv at *
        generalize l[k] = y at *
        obtain ⟨mk, ms, mt, mo, my⟩ := y
        simp only [] at c0 c1 c2 c3 c4 hSo HV HK
        obtain ⟨u1, hu1⟩ : ∃ u1, wr.alloc (.cells #[.int .i64 mk, .int .i64 ms, .int .i64 mt, .slice oa' ol' oc', .bool my] 100) = u1 := ⟨_, rfl⟩
        have hbu : Below wr.heap.size wr u1 := by rw [← hu1]; exact below_make
        have hX := boxIn_new wr [.int .i64 mk, .int .i64 ms, .int .i64 mt, .slice oa' ol' oc', .bool my] 100
        rw [hu1] at hX
        have hbw := hb.trans (hbu.mono hb.size)
        have HSO := Hid.mk' (wds.impl_wordOk mk ms mt oa' ol' oc' mo my u1 (hSo.below hbu) HK.out)
        obtain ⟨x0, x1, x2, x3, x4⟩ := cells5 hX
        rw [← hu1] at x0 x1 x2 x3 x4
        have HU := Hid.mk' hu1
        generalize wds.wordOk (mk, ms, mt, mo, my) = r at *
        clear hu1 hSo HK
        by_cases e : ms < m
        · have d1 : ¬ m ≤ ms := by omega
          cases r
          · have HF := Hid.mk' (HP.out.1 (by rw [HV.out]; rfl))
            clear HP HV e
            go_wp2_with fail
            rw [HU.out]
            refine HSO.out.mono ?_
            rintro e w9 ⟨rfl, hb9⟩
            clear x0 x1 x2 x3 x4 c0 c1 c2 c3 c4 HSO HU
            go_wp2_with fail
            go_ret
            exact ⟨by rw [HF.out]; rfl, hbw.trans (hb9.mono hbw.size)⟩
          · have HF := Hid.mk' (HP.out.2 (by rw [HV.out]; simp [e]))
            clear HP HV e
            go_wp2_with fail
            rw [HU.out]
            refine HSO.out.mono ?_
            rintro e w9 ⟨rfl, hb9⟩
            clear x0 x1 x2 x3 x4 c0 c1 c2 c3 c4 HSO HU
            go_wp2_with fail
            go_roundw
            case rel => exact ⟨k + 1, by omega, by go_num, hbw.trans (hb9.mono hbw.size), HF.out⟩
            case measure => simp [intOf]; omega
        · have d1 : m ≤ ms := by omega
          have HF := Hid.mk' (HP.out.1 (by rw [HV.out]; simp [e]))
          clear HP HV e HSO
          go_wp2_with fail
          go_ret
          rw [HU.out]
          exact ⟨by rw [HF.out]; rfl, hbw⟩
      · have hki : ¬ (k : Int) < (n : Int) := by omega
        have HF : Hid (R = true) := by show _ = _; rw [HR5.out, range_every (fun j hj => HNO.out j (by omega))]
        go_wp2_with fail
        go_ret
        exact ⟨by rw [HF.out]; rfl, hb⟩
  · have HF : Hid (R = false) := by show _ = _; rw [HR.out]; simp [eN]
    have eNi : (400 : Int) < (n : Int) := by omega
    clear HR eN
    go_enter Tryz.func26, Tryz.ntmps26
    go_wp2_with fail
    go_ret
    exact ⟨by rw [HF.out]; rfl, Below.refl _ _⟩
end Go.Proofs.YtijplooogplccaaGreat.wos

namespace Go.Proofs.YtijplooogplccaaGreat.cos
open Go Go.RowKit Go.Proofs.YtijplooogplccaaGreat.base Go.Proofs.YtijplooogplccaaGreat.pairs Go.Proofs.YtijplooogplccaaGreat.ords
set_option linter.unusedVariables false
set_option linter.unusedSimpArgs false

/-! ### shards that said yes: what stands up to each that is found is cut off -/
def yesCut : List Int → List Int → Bool
  | _, [] => true
  | left, x :: r => match left.findIdx? (fun z => decide (z = x)) with | none => false | some k => yesCut (left.drop (k + 1)) r
def past (p : Option Int) (z : Int) : Bool := match p with | none => true | some q => decide (q < z)
theorem asc_drop {l : List Int} (h : Asc l) {k : Nat} (hk : k < l.length) : l.drop (k + 1) = l.filter (fun z => decide (l[k] < z)) := by
  have e := List.take_append_drop (k + 1) l
  have h1 : (l.take (k + 1)).filter (fun z => decide (l[k] < z)) = [] := by
    refine List.filter_eq_nil_iff.2 fun x hx => ?_
    obtain ⟨i, hi, rfl⟩ := List.getElem_of_mem hx
    rw [List.getElem_take]
    simp only [List.length_take] at hi
    rcases Nat.lt_or_ge i k with hik | hik
    · have := List.pairwise_iff_getElem.1 h i k (by omega) hk hik
      simp; omega
    · have : i = k := by omega
      subst this; simp
  have h2 : (l.drop (k + 1)).filter (fun z => decide (l[k] < z)) = l.drop (k + 1) := by
    refine List.filter_eq_self.2 fun x hx => ?_
    obtain ⟨i, hi, rfl⟩ := List.getElem_of_mem hx
    rw [List.getElem_drop]
    simp only [List.length_drop] at hi
    have := List.pairwise_iff_getElem.1 h k (k + 1 + i) hk (by omega) (by omega)
    simpa using this
  generalize l[k] = y at *
  have h3 : l.filter (fun z => decide (y < z)) = (l.take (k + 1) ++ l.drop (k + 1)).filter (fun z => decide (y < z)) := by rw [e]
  rw [h3, List.filter_append, h1, h2, List.nil_append]
theorem cut_step {list : List Int} (ha : Asc list) (p : Option Int) (x : Int) (r : List Int) : yesCut (list.filter (past p)) (x :: r) = (decide (x ∈ list) && past p x && yesCut (list.filter (past (some x))) r) := by
  have hf : Asc (list.filter (past p)) := List.Pairwise.filter _ ha
  cases e : (list.filter (past p)).findIdx? (fun z => decide (z = x)) with
  | none =>
    have hn : x ∉ list.filter (past p) := fun hm => by
      have := List.findIdx?_eq_none_iff.1 e x hm
      simp at this
    have h0 : (decide (x ∈ list) && past p x) = false := by
      cases hp : past p x
      · simp
      · have : x ∉ list := fun hm => hn (List.mem_filter.2 ⟨hm, hp⟩)
        simp [this]
    have hs : yesCut (list.filter (past p)) (x :: r) = false := by
      conv => lhs; unfold yesCut
      rw [e]
    rw [hs, h0, Bool.false_and]
  | some k =>
    obtain ⟨hk, hp, _⟩ := findIdx_some e
    have hx : (list.filter (past p))[k] = x := of_decide_eq_true hp
    have hm : x ∈ list.filter (past p) := by rw [← hx]; exact List.getElem_mem hk
    obtain ⟨hm1, hm2⟩ := List.mem_filter.1 hm
    have h3 : (list.filter (past p)).drop (k + 1) = list.filter (past (some x)) := by
      rw [asc_drop hf hk, hx, List.filter_filter]
      refine List.filter_congr fun z hz => ?_
      show (decide (x < z) && past p z) = decide (x < z)
      by_cases hlt : x < z
      · have : past p z = true := by
          cases p with
          | none => rfl
          | some q => have := of_decide_eq_true hm2; exact decide_eq_true (by omega)
        rw [this, Bool.and_true]
      · simp [hlt]
    have hs : yesCut (list.filter (past p)) (x :: r) = yesCut ((list.filter (past p)).drop (k + 1)) r := by
      conv => lhs; unfold yesCut
      rw [e]
    rw [hs, h3, decide_eq_true hm1, hm2, Bool.true_and, Bool.true_and]
theorem cut_yes {list : List Int} (ha : Asc list) (p : Option Int) (ys : List Int) : yesCut (list.filter (past p)) ys = yesOk list p ys := by
  induction ys generalizing p with
  | nil => rfl
  | cons x r ih =>
    rw [cut_step ha, ih (some x)]
    cases p <;> rfl
theorem cut_all {list : List Int} (ha : Asc list) (ys : List Int) : yesCut list ys = yesOk list none ys := by
  have := cut_yes ha none ys
  rwa [show list.filter (past none) = list from List.filter_eq_self.2 fun _ _ => rfl] at this

/-! ### choices -/
def has (log : List Ch) (c : Ch) : Bool := decide (c ∈ log)
def decided (log : List Ch) (tx : Int) : Bool := has log (tx, true) || has log (tx, false)
def placeOf (log : List Ch) (c : Ch) : Nat := (log.findIdx? fun d => decide (d = c)).getD 0
theorem decided_iff {log : List Ch} {tx : Int} : decided log tx = true ↔ ∃ y, (tx, y) ∈ log := by
  unfold decided has
  rw [Bool.or_eq_true, decide_eq_true_iff, decide_eq_true_iff]
  constructor
  · rintro (h | h)
    · exact ⟨true, h⟩
    · exact ⟨false, h⟩
  · rintro ⟨y, h⟩
    cases y
    · exact .inr h
    · exact .inl h
theorem choice_of_mem {log : List Ch} (hn : (log.map fun c => c.1).Nodup) {c : Ch} (h : c ∈ log) : choice log c.1 = some c.2 := by
  obtain ⟨i, hi, rfl⟩ := List.getElem_of_mem h
  obtain ⟨hk, e⟩ := choice_some (nodup_iff.1 hn i hi)
  exact e
theorem mem_of_choice {log : List Ch} {tx : Int} {y : Bool} (h : choice log tx = some y) : (tx, y) ∈ log := by
  unfold choice at h
  cases e : log.find? (fun c => decide (c.1 = tx)) with
  | none => rw [e] at h; cases h
  | some c =>
    rw [e] at h
    simp only [Option.map_some, Option.some.injEq] at h
    have h1 := List.mem_of_find?_eq_some e
    have h2 : c.1 = tx := by have h3 := List.find?_some e; simpa using h3
    rw [← h, ← h2]; exact h1
theorem has_choice {log : List Ch} (hn : (log.map fun c => c.1).Nodup) (tx : Int) (y : Bool) : has log (tx, y) = decide (choice log tx = some y) := by
  unfold has
  rw [decide_eq_decide]
  exact ⟨fun h => choice_of_mem hn h, mem_of_choice⟩
theorem decided_choice {log : List Ch} (hn : (log.map fun c => c.1).Nodup) (tx : Int) : decided log tx = (choice log tx).isSome := by
  unfold decided
  rw [has_choice hn, has_choice hn]
  cases choice log tx with
  | none => rfl
  | some y => cases y <;> rfl
theorem logOk_nodup {hi : Int} {log : List Ch} (h : logOk hi log = true) : (log.map fun c => c.1).Nodup := by
  unfold logOk at h
  rw [Bool.and_eq_true, decide_eq_true_iff] at h
  exact h.2
theorem logOk_snoc {hi : Int} {l : List Ch} {c : Ch} : logOk hi (l ++ [c]) = (logOk hi l && (decide (1000 ≤ c.1 ∧ c.1 ≤ hi) && !decided l c.1)) := by
  have hiff : logOk hi (l ++ [c]) = true ↔ (logOk hi l && (decide (1000 ≤ c.1 ∧ c.1 ≤ hi) && !decided l c.1)) = true := by
    unfold logOk
    simp only [Bool.and_eq_true, List.all_append, List.map_append, List.map_cons, List.map_nil, decide_eq_true_iff, Bool.not_eq_true', List.all_cons, List.all_nil, Bool.and_true]
    rw [List.nodup_append]
    constructor
    · rintro ⟨⟨h1, h2⟩, h3, _, h4⟩
      refine ⟨⟨h1, h3⟩, h2, ?_⟩
      cases e : decided l c.1
      · rfl
      · obtain ⟨y, hy⟩ := decided_iff.1 e
        exact absurd rfl (h4 c.1 (List.mem_map.2 ⟨_, hy, rfl⟩) c.1 (by simp))
    · rintro ⟨⟨h1, h3⟩, h2, h4⟩
      refine ⟨⟨h1, h2⟩, h3, by simp, fun a ha b hb e => ?_⟩
      obtain ⟨d, hd, rfl⟩ := List.mem_map.1 ha
      have hb2 : b = c.1 := by simpa using hb
      subst hb2
      have : decided l c.1 = true := decided_iff.2 ⟨d.2, by rw [← e]; exact hd⟩
      rw [this] at h4; cases h4
  cases h1 : logOk hi (l ++ [c]) <;> cases h2 : (logOk hi l && (decide (1000 ≤ c.1 ∧ c.1 ≤ hi) && !decided l c.1)) <;> simp_all
theorem logOk_take {hi : Int} {log : List Ch} {k : Nat} (h : logOk hi log = true) : logOk hi (log.take k) = true := by
  unfold logOk at h ⊢
  simp only [Bool.and_eq_true, decide_eq_true_iff, List.all_eq_true] at h ⊢
  exact ⟨fun c hc => h.1 c (List.mem_of_mem_take hc), by rw [List.map_take]; exact List.Nodup.sublist (List.take_sublist _ _) h.2⟩
theorem logOk_stop {hi : Int} {log : List Ch} {k : Nat} (hk : k < log.length) (h : (decide (1000 ≤ log[k].1 ∧ log[k].1 ≤ hi) && !decided (log.take k) log[k].1) = false) : logOk hi log = false := by
  cases e : logOk hi log
  · rfl
  · have := logOk_take (k := k + 1) e
    rw [List.take_succ_eq_append_getElem hk, logOk_snoc, h] at this
    simp at this
theorem placeOf_snoc {l : List Ch} {c : Ch} (h : c ∉ l) (d : Ch) : placeOf (l ++ [c]) d = if d = c then l.length else placeOf l d := by
  unfold placeOf
  rw [List.findIdx?_append]
  by_cases e : d = c
  · subst e
    rw [if_pos rfl, List.findIdx?_eq_none_iff.2 (fun x hx => decide_eq_false fun (e2 : x = d) => h (e2 ▸ hx))]
    simp [List.findIdx?_cons]
  · rw [if_neg e]
    have : ([c] : List Ch).findIdx? (fun x => decide (x = d)) = none := by
      rw [List.findIdx?_eq_none_iff]
      intro x hx
      have : x = c := by simpa using hx
      subst this
      exact decide_eq_false fun e2 => e e2.symm
    rw [this]
    cases List.findIdx? (fun x => decide (x = d)) l <;> rfl
theorem has_snoc {l : List Ch} {c : Ch} (d : Ch) : has (l ++ [c]) d = (has l d || decide (d = c)) := by
  unfold has; simp [Bool.decide_or]
/-! ### what is told: the program's way -/
end Go.Proofs.YtijplooogplccaaGreat.cos

namespace Go.Proofs.YtijplooogplccaaGreat.cos
open Go Go.RowKit Go.Proofs.YtijplooogplccaaGreat.base Go.Proofs.YtijplooogplccaaGreat.pairs Go.Proofs.YtijplooogplccaaGreat.ords Go.Proofs.YtijplooogplccaaGreat.lay Go.Proofs.YtijplooogplccaaGreat.wds
set_option linter.unusedVariables false
set_option linter.unusedSimpArgs false

abbrev chV (tx : Int) (y : Bool) : Value := .agg #[.int .i64 tx, .bool y]
def chK (tx : Int) (y : Bool) : Lit := .string (keyBytes [.int .i64 tx, .bool y])
theorem keyCh : Maps.Keyed Tryz.prog 94 := Maps.Keyed.of_law (deep_law_laid (by kernel_rfl) (m := 2) (by decide) (of_decide_eq_true (by kernel_rfl)) (by kernel_rfl) (by kernel_rfl))
theorem zeroI (w : World) : (zeroValue 3).run Tryz.prog w = .ok (.int .i64 0) w := by kernel_rfl
theorem keyOf_ch {tx : Int} {y : Bool} (h : (Lit.int .i64 tx).wf = true) : keyOf Tryz.prog 94 (chV tx y) = some (chK tx y) := by
  have hkt : Tryz.prog.keyType 94 = true := by kernel_rfl
  have hfm : (chV tx y).formed Tryz.prog 94 = true := by kernel_rfl
  obtain ⟨m, hm⟩ : ∃ m, Tryz.prog.types.size = m + 1 := ⟨Tryz.prog.types.size - 1, by kernel_rfl⟩
  have c0 : Tryz.prog.cellsOf 3 = 1 := by kernel_rfl
  have c1 : Tryz.prog.cellsOf 4 = 1 := by kernel_rfl
  have c2 : Tryz.prog.cellsOf 94 = 2 := by kernel_rfl
  unfold keyOf
  simp only [Tryz.underlying94]
  rw [if_pos (by rw [hkt, hfm]; rfl), hm]
  unfold Program.keyLits
  simp only [Tryz.underlying94, Value.cells]
  rw [if_pos ⟨by rw [c2]; rfl, by kernel_rfl⟩]
  simp [List.mapM_cons, List.mapM_nil, c0, c1, Program.keyLits, Tryz.underlying3, Tryz.underlying4, h, chK]
theorem chK_ne {tx tx' : Int} {y y' : Bool} (h : (Lit.int .i64 tx).wf = true) (h' : (Lit.int .i64 tx').wf = true) (hne : (tx, y) ≠ (tx', y')) : chK tx y ≠ chK tx' y' := fun e => by
  have h1 := keyOf_ch (y := y) h
  have h2 := keyOf_ch (y := y') h'
  rw [← e] at h2
  have := keyCh.inj h1 h2
  simp only [chV, Value.agg.injEq, Array.mk.injEq, List.cons.injEq, Value.int.injEq, Value.bool.injEq, true_and, and_true] at this
  exact hne (Prod.ext this.1 this.2)
theorem lit_injC {a b : Int} (h : (DataW.lit (.int .i64 a) : DataW Unit) = .lit (.int .i64 b)) : a = b := by
  cases h; rfl
def Made (w : World) (B n : Nat) (log : List Ch) : Prop :=
  ∃ D : DataW Unit, w.ownsMap Tryz.prog 94 (plainElem Tryz.prog 3) B n D ∧ ∀ c : Ch, (Lit.int .i64 c.1).wf = true → Maps.has D (chK c.1 c.2) = has log c ∧ D.atKey (chK c.1 c.2) (.lit (.int .i64 0)) = .lit (.int .i64 (placeOf log c : Int))
section
variable {w w' : World} {B n : Nat} {log : List Ch}
theorem made_new (w : World) : Made (w.alloc (.map #[] 0)) w.heap.size 0 [] :=
  ⟨.map [], World.ownsMap_made _ _ _ _, fun c hc => ⟨rfl, rfl⟩⟩
theorem Made.lt (h : Made w B n log) : B < w.heap.size := by
  obtain ⟨D, ⟨es, clock, hb, _⟩, _⟩ := h
  exact (Array.getElem?_eq_some_iff.1 hb).1
theorem Made.keep (h : Made w B n log) (hk : w'.heap[B]? = w.heap[B]?) : Made w' B n log := by
  obtain ⟨D, ⟨es, clock, hb, r⟩, h3⟩ := h
  exact ⟨D, ⟨es, clock, hk.trans hb, r⟩, h3⟩
theorem Made.below (h : Made w B n log) (hb : Below w.heap.size w w') : Made w' B n log := h.keep (hb.block B h.lt)
theorem Made.look (h : Made w B n log) {tx : Int} {y : Bool} (hw : (Lit.int .i64 tx).wf = true) : (Instr.lookup 119 (.map (some B)) (chV tx y) true).run Tryz.prog w = .ok (.tuple #[.int .i64 (placeOf log (tx, y) : Int), .bool (has log (tx, y))]) w := by
  obtain ⟨D, h1, h3⟩ := h
  obtain ⟨v, ps, hrun, hR⟩ := h1.look_ok keyCh Tryz.underlying119 (zeroI w) (plainElem_int Tryz.underlying3 (by decide)) (keyOf_ch (y := y) hw)
  obtain ⟨hh, ha⟩ := h3 (tx, y) hw
  simp only [] at hh ha
  rw [ha] at hR
  obtain ⟨c, rfl, hc, _⟩ := plainElem_int_inv Tryz.underlying3 hR
  have hc2 : (placeOf log (tx, y) : Int) = c := lit_injC (congrArg Prod.fst hc)
  rw [hrun, hh, hc2]
end
set_option maxRecDepth 100000 in
set_option maxHeartbeats 1000000 in
theorem i_has (B m : Nat) (log : List Ch) (tx : Int) (y : Bool) (w : World) (h : Made w B m log) (hw : (Lit.int .i64 tx).wf = true) :
    Calls Tryz.prog 145 #[.map (some B), chV tx y] w fun e w' => e = .returned (.bool (has log (tx, y))) ∧ Below w.heap.size w w' := by
  have hb := below_new w (.cells #[.int .i64 tx, .bool y] 94)
  have hlk := (h.below hb).look (y := y) hw
  generalize placeOf log (tx, y) = pl at *
  generalize has log (tx, y) = r at *
  clear h hw
  go_enter Tryz.func145, Tryz.ntmps145
  go_wp2_with fail
  go_ret
  exact ⟨rfl, hb⟩
set_option maxRecDepth 100000 in
set_option maxHeartbeats 1000000 in
theorem i_decided (B m : Nat) (log : List Ch) (tx : Int) (w : World) (h : Made w B m log) (hw : (Lit.int .i64 tx).wf = true) :
    Calls Tryz.prog 133 #[.map (some B), .int .i64 tx] w fun e w' => e = .returned (.bool (decided log tx)) ∧ Below w.heap.size w w' := by
  have H1 := Hid.mk' (i_has B m log tx true w h hw)
  have H2 := Hid.mk' (fun wx (hx : Below w.heap.size w wx) => i_has B m log tx false wx (h.below hx) hw)
  have HR : Hid (decided log tx = (has log (tx, true) || has log (tx, false))) := rfl
  clear h hw
  cases h1 : has log (tx, true)
  · rw [h1] at H1 HR
    clear h1
    generalize has log (tx, false) = r at *
    go_enter Tryz.func133, Tryz.ntmps133
    go_wp2_with fail
    refine H1.out.mono ?_
    rintro e w1 ⟨rfl, hb1⟩
    go_wp2_with fail
    refine (H2.out _ hb1).mono ?_
    rintro e w2 ⟨rfl, hb2⟩
    go_wp2_with fail
    go_ret
    exact ⟨ret_bool (by rw [HR.out]; rfl), hb1.trans (hb2.mono hb1.size)⟩
  · rw [h1] at H1 HR
    clear h1 H2
    go_enter Tryz.func133, Tryz.ntmps133
    go_wp2_with fail
    refine H1.out.mono ?_
    rintro e w1 ⟨rfl, hb1⟩
    go_wp2_with fail
    go_ret
    exact ⟨ret_bool (by rw [HR.out]; rfl), hb1⟩
/-! ### numbers of transactions -/
section
variable (X : Nat) (T : TypeId) (pre post : List Value) (n life next sure : Int) (ja : Option Addr) (jn jc : Nat) (la : Option Addr) (ln lc : Nat) (w : World)
theorem i_firstTx (h : BoxIn X T pre (coVals n life next sure ja jn jc la ln lc) post w) (hl : 1 ≤ life ∧ life ≤ 900) :
    Calls Tryz.prog 101 #[.pointer (some ⟨X, pre.length, none⟩)] w fun e w' => e = .returned (.int .i64 (life * 1000)) ∧ w' = w := by
  have w1 : IntKind.i64.wrap (life * 1000) = life * 1000 := by rw [IntKind.wrap_i64]; omega
  have c1 := h.cell 1 _ rfl
  clear h
  go_enter Tryz.func101, Tryz.ntmps101
  go_wp2_with fail
  go_ret
  exact ⟨rfl, rfl⟩
set_option maxRecDepth 100000 in
set_option maxHeartbeats 1000000 in
theorem i_nextTx (h : BoxIn X T pre (coVals n life next sure ja jn jc la ln lc) post w) (hl : 1 ≤ life ∧ life ≤ 900) (hn : 0 ≤ next ∧ next ≤ 999) :
    Calls Tryz.prog 61 #[.pointer (some ⟨X, pre.length, none⟩)] w fun e w' => e = .returned (.int .i64 (life * 1000 + next)) ∧ Below w.heap.size w w' := by
  have w2 : IntKind.i64.wrap (life * 1000 + next) = life * 1000 + next := by rw [IntKind.wrap_i64]; omega
  have c2 := h.cell 2 _ rfl
  have hX := h.lt
  have o2 := last.On.cell c2 hX
  have hinh := last.On.inh w.heap.size w
  have hcall : ∀ x : last.On w.heap.size w, Calls Tryz.prog 101 #[.pointer (some ⟨X, pre.length, none⟩)] x.w fun e w' => e = .returned (.int .i64 (life * 1000)) ∧ ∃ y : last.On w.heap.size w, w' = y.w := fun x => last.Calls.on x (Nat.le_refl _) ((i_firstTx X T pre post n life next sure ja jn jc la ln lc x.w (h.below x.2) hl).mono fun e w' ⟨he, hw⟩ => ⟨he, by rw [hw]; exact Below.refl _ _⟩)
  clear h c2
  go_enter Tryz.func61, Tryz.ntmps61
  go_wp2_with fail
  refine last.wp_region_on w.heap.size (by kernel_rfl) (by kernel_rfl) ?_
  repeat (go_big_quiet_step ((first | (go_at_call 101; with_reducible exact hcall _))))
  refine wpQuiet_nil ?_
  intro wq hwq
  obtain ⟨xq, hwq⟩ := hwq
  subst hwq
  have hbq : Below w.heap.size w xq.w := xq.2
  generalize xq.w = w4 at *
  clear o2 hcall hinh
  go_wp2_with fail
  go_ret
  exact ⟨rfl, hbq⟩
end
end Go.Proofs.YtijplooogplccaaGreat.cos

namespace Go.Proofs.YtijplooogplccaaGreat.cos
open Go Go.RowKit Go.Proofs.YtijplooogplccaaGreat.base Go.Proofs.YtijplooogplccaaGreat.pairs Go.Proofs.YtijplooogplccaaGreat.ords Go.Proofs.YtijplooogplccaaGreat.lay Go.Proofs.YtijplooogplccaaGreat.wds
set_option linter.unusedVariables false
set_option linter.unusedSimpArgs false

def ChPost (w : World) (ln : Nat) (hi : Int) (log : List Ch) (e : Ending) (w' : World) : Prop :=
  Below w.heap.size w w' ∧ (((decide (ln ≤ 1000) && logOk hi log) = false ∧ e = .returned (.tuple #[.map none, .bool false])) ∨ ((decide (ln ≤ 1000) && logOk hi log) = true ∧ ∃ B m, e = .returned (.tuple #[.map (some B), .bool true]) ∧ Made w' B m log))
theorem ch_wf {w : World} {a : Option Addr} {len : Nat} {l : List Ch} (h : SlG chR w a len l) (i : Nat) (hi : i < l.length) : (Lit.int .i64 l[i].1).wf = true := by
  obtain ⟨vs, hv⟩ := h.2.2.1 l[i] (List.getElem_mem hi)
  exact (flat_ch.see.1 hv).2.1
theorem Made.put {w' : World} {B n : Nat} {log : List Ch} {D : DataW Unit} {c : Ch} (hD : Maps.IsMap D) (h3 : ∀ d : Ch, (Lit.int .i64 d.1).wf = true → Maps.has D (chK d.1 d.2) = has log d ∧ D.atKey (chK d.1 d.2) (.lit (.int .i64 0)) = .lit (.int .i64 (placeOf log d : Int))) (hw : (Lit.int .i64 c.1).wf = true) (hn : c ∉ log)
    (h1 : w'.ownsMap Tryz.prog 94 (plainElem Tryz.prog 3) B n (D.put (chK c.1 c.2) (.lit (.int .i64 (log.length : Int))))) : Made w' B n (log ++ [c]) := by
  refine ⟨_, h1, fun d hd => ?_⟩
  rw [has_snoc, placeOf_snoc hn]
  by_cases e : d = c
  · subst e
    rw [Maps.has_put_same hD (keyCh.key (keyOf_ch (y := d.2) hd)), Maps.atKey_put_same hD (keyCh.key (keyOf_ch (y := d.2) hd)), if_pos rfl]
    exact ⟨by simp, rfl⟩
  · have hne := chK_ne (y := d.2) (y' := c.2) hd hw (fun e2 => e e2)
    rw [Maps.has_put_other hne, Maps.atKey_put_other hne, if_neg e, (h3 d hd).1, (h3 d hd).2]
    exact ⟨by simp [e], rfl⟩
set_option maxRecDepth 100000 in
set_option maxHeartbeats 2000000 in
theorem i_choicesOf (X : Nat) (T : TypeId) (pre post : List Value) (n life next sure : Int) (ja : Option Addr) (jn jc : Nat) (la : Option Addr) (ln lc : Nat) (log : List Ch) (w : World) (hbx : BoxIn X T pre (coVals n life next sure ja jn jc la ln lc) post w) (hl : SlG chR w la ln log) (hlf : 1 ≤ life ∧ life ≤ 900) (hnx0 : 0 ≤ next ∧ next ≤ 999) :
    Calls Tryz.prog 92 #[.pointer (some ⟨X, pre.length, none⟩)] w (ChPost w ln (life * 1000 + next - 1) log) := by
  have hll := hl.1
  have hlm := hl.2.1
  unfold maxLen at hlm
  have c4 := hbx.cell 4 _ rfl
  obtain ⟨hi, hhi⟩ : ∃ hi : Int, life * 1000 + next - 1 = hi := ⟨_, rfl⟩
  rw [hhi]
  have HHI := Hid.mk' hhi
  clear hhi
  by_cases h1000 : ln ≤ 1000
  · have hl1 : ¬ (1000 : Int) < (ln : Int) := by omega
    have HR : Hid ((decide (ln ≤ 1000) && logOk hi log) = logOk hi log) := by show _ = _; rw [decide_eq_true h1000, Bool.true_and]
    have hmm := @run_makeMap Tryz.prog
    have hb0 : Below w.heap.size w (w.alloc (.map #[] 0)) := below_new _ _
    have d4 := (hbx.below hb0).cell 4 _ rfl
    go_enter Tryz.func92, Tryz.ntmps92
    go_wp2_with (at_builtin; fail)
    go_loopw [19] (fun i wr => ∃ k : Nat, k ≤ ln ∧ i = .int .i64 (k : Int) ∧ Made wr w.heap.size k (log.take k) ∧ logOk hi (log.take k) = true ∧ Below w.heap.size w wr) (fun i _ => ln - (intOf i).toNat)
    case atStart => exact ⟨0, Nat.zero_le _, rfl, made_new w, rfl, hb0⟩
    case round =>
      obtain ⟨k, hk, rfl, hM, hok, hB⟩ := hrel
      clear hmm c4 d4 hb0
      by_cases hlt : k < ln
      · have hltl : k < log.length := by omega
        obtain ⟨b, off, e⟩ := slg_some hl (by omega)
        subst e
        have hS := hl.below hB
        obtain ⟨e0, e1⟩ := ch_at hS k hltl
        have hwf := ch_wf hS k hltl
        have hki : (k : Int) < (ln : Int) := by omega
        have HST : Hid ((decide (1000 ≤ log[k].1 ∧ log[k].1 ≤ hi) && !decided (log.take k) log[k].1) = false → logOk hi log = false) := logOk_stop hltl
        have HGO : Hid ((decide (1000 ≤ log[k].1 ∧ log[k].1 ≤ hi) && !decided (log.take k) log[k].1) = true → logOk hi (log.take (k + 1)) = true) := fun e => by
          rw [List.take_succ_eq_append_getElem hltl, logOk_snoc, hok, e]; rfl
        have HTK : Hid (log.take (k + 1) = log.take k ++ [log[k]]) := List.take_succ_eq_append_getElem hltl
        have HLK : Hid ((log.take k).length = k) := by show _ = _; simp; omega
        have HMEM : Hid (decided (log.take k) log[k].1 = false → log[k] ∉ log.take k) := fun e hm => by
          have : decided (log.take k) log[k].1 = true := decided_iff.2 ⟨log[k].2, hm⟩
          rw [e] at this; cases this
        generalize log[k] = c at *
        obtain ⟨tx, y⟩ := c
        simp only [] at *
        obtain ⟨V, hV⟩ : ∃ V, wr.alloc (.cells #[.int .i64 tx, .bool y] 94) = V := ⟨_, rfl⟩
        have hbv : Below wr.heap.size wr V := by rw [← hV]; exact below_new _ _
        have q0 : V.cell? ⟨wr.heap.size, 0, none⟩ = some (.int .i64 tx) := by rw [← hV]; simp
        have q1 : V.cell? ⟨wr.heap.size, 1, none⟩ = some (.bool y) := by rw [← hV]; simp
        have hBV := hB.trans (hbv.mono hB.size)
        have hMV := hM.below hbv
        have hxV := hbx.below hBV
        have o0 := last.On.cell (B := V.heap.size) q0 (World.block_lt_of_cell? _ _ q0)
        have hinh := last.On.inh V.heap.size V
        have hnx : ∀ x : last.On V.heap.size V, Calls Tryz.prog 61 #[.pointer (some ⟨X, pre.length, none⟩)] x.w fun e w' => e = .returned (.int .i64 (life * 1000 + next)) ∧ ∃ y : last.On V.heap.size V, w' = y.w := fun x => last.Calls.on x (Nat.le_refl _) (i_nextTx X T pre post n life next sure ja jn jc _ ln lc x.w (hxV.below x.2) hlf hnx0)
        have hdc : ∀ x : last.On V.heap.size V, Calls Tryz.prog 133 #[.map (some w.heap.size), .int .i64 tx] x.w fun e w' => e = .returned (.bool (decided (log.take k) tx)) ∧ ∃ y : last.On V.heap.size V, w' = y.w := fun x => last.Calls.on x (Nat.le_refl _) (i_decided w.heap.size k (log.take k) tx x.w (hMV.below x.2) hwf)
        have HV := Hid.mk' hV
        have HMV := Hid.mk' hMV
        clear hV hM hbx hl hS hbv hB hxV hMV
        by_cases ht1 : tx < 1000
        · have HF : Hid (logOk hi log = false) := HST.out (by rw [decide_eq_false (by omega)]; rfl)
          clear HST HGO HMEM
          have htd : decide (tx < 1000) = true := decide_eq_true ht1
          go_wp2_with fail
          rw [HV.out]
          refine last.wp_region_on V.heap.size (by kernel_rfl) (by kernel_rfl) ?_
          repeat (go_big_quiet_step ((first | (go_at_call 61; with_reducible exact hnx _) | (go_at_call 133; with_reducible exact hdc _))))
          refine wpQuiet_nil ?_
          intro wq hwq
          obtain ⟨xq, hwq⟩ := hwq
          subst hwq
          have hbq : Below V.heap.size V xq.w := xq.2
          generalize xq.w = w4 at *
          clear o0 hnx hdc hinh
          go_wp2_with fail
          go_returns
          exact ⟨hBV.trans (hbq.mono hBV.size), .inl ⟨by rw [HR.out, HF.out], rfl⟩⟩
        have htd : decide (tx < 1000) = false := decide_eq_false ht1
        by_cases ht2 : life * 1000 + next ≤ tx
        · have hte : decide (life * 1000 + next ≤ tx) = true := decide_eq_true ht2
          have HF : Hid (logOk hi log = false) := HST.out (by have := HHI.out; rw [decide_eq_false (by omega)]; rfl)
          clear HST HGO HMEM
          go_wp2_with fail
          rw [HV.out]
          refine last.wp_region_on V.heap.size (by kernel_rfl) (by kernel_rfl) ?_
          repeat (go_big_quiet_step ((first | (go_at_call 61; with_reducible exact hnx _) | (go_at_call 133; with_reducible exact hdc _))))
          refine wpQuiet_nil ?_
          intro wq hwq
          obtain ⟨xq, hwq⟩ := hwq
          subst hwq
          have hbq : Below V.heap.size V xq.w := xq.2
          generalize xq.w = w4 at *
          clear o0 hnx hdc hinh
          go_wp2_with fail
          go_returns
          exact ⟨hBV.trans (hbq.mono hBV.size), .inl ⟨by rw [HR.out, HF.out], rfl⟩⟩
        have hte : decide (life * 1000 + next ≤ tx) = false := decide_eq_false ht2
        cases hdd : decided (log.take k) tx
        · have HG : Hid (logOk hi (log.take (k + 1)) = true) := HGO.out (by have := HHI.out; rw [hdd, decide_eq_true (by omega)]; rfl)
          have HNM : Hid ((tx, y) ∉ log.take k) := HMEM.out hdd
          rw [hdd] at hdc
          clear HST HGO HMEM hdd
          go_wp2_with fail
          rw [HV.out]
          refine last.wp_region_on V.heap.size (by kernel_rfl) (by kernel_rfl) ?_
          repeat (go_big_quiet_step ((first | (go_at_call 61; with_reducible exact hnx _) | (go_at_call 133; with_reducible exact hdc _))))
          refine wpQuiet_nil ?_
          intro wq hwq
          obtain ⟨xq, hwq⟩ := hwq
          subst hwq
          have hbq : Below V.heap.size V xq.w := xq.2
          generalize xq.w = w4 at *
          clear o0 hnx hdc hinh
          have hB4 := hBV.trans (hbq.mono hBV.size)
          obtain ⟨D, hown, h3⟩ := HMV.out.below hbq
          have H3 := Hid.mk' h3
          have g0 : w4.cell? ⟨wr.heap.size, 0, none⟩ = some (.int .i64 tx) := (hbq.cell (p := ⟨wr.heap.size, 0, none⟩) (World.block_lt_of_cell? _ _ q0)).trans q0
          have g1 : w4.cell? ⟨wr.heap.size, 1, none⟩ = some (.bool y) := (hbq.cell (p := ⟨wr.heap.size, 1, none⟩) (World.block_lt_of_cell? _ _ q1)).trans q1
          have hkey := keyOf_ch (y := y) hwf
          clear h3 q0 q1 e0 e1
          go_wp2_with (at_mapUpdate; refine wpList_mapUpdate_own _ rfl _ _ _ 119 rfl 94 3 keyCh Tryz.underlying119 _ w.heap.size k D rfl hown (by unfold maxLen; omega) _ _ _ rfl rfl hkey _ [] (plainElem_int Tryz.underlying3 (WalkArith.wf_i64 (by omega))) ?_)
          intro w5 hown5 hgrow5
          have hM5 : Made w5 w.heap.size (k + 1) (log.take (k + 1)) := by
            rw [HTK.out]
            exact Made.put hown.isMap H3.out hwf HNM.out (by rw [HLK.out]; exact hown5)
          have hB5 := hB4.grown hgrow5 hB4.size (fun j hj => by cases hj; exact Nat.le_refl _)
          clear hown5 hgrow5 hown
          go_wp2_with fail
          go_roundw
          case rel => exact ⟨k + 1, by omega, by go_num, hM5, HG.out, hB5⟩
          case measure => simp [intOf]; omega
        · have HF : Hid (logOk hi log = false) := HST.out (by rw [hdd]; simp)
          rw [hdd] at hdc
          clear HST HGO HMEM hdd
          go_wp2_with fail
          rw [HV.out]
          refine last.wp_region_on V.heap.size (by kernel_rfl) (by kernel_rfl) ?_
          repeat (go_big_quiet_step ((first | (go_at_call 61; with_reducible exact hnx _) | (go_at_call 133; with_reducible exact hdc _))))
          refine wpQuiet_nil ?_
          intro wq hwq
          obtain ⟨xq, hwq⟩ := hwq
          subst hwq
          have hbq : Below V.heap.size V xq.w := xq.2
          generalize xq.w = w4 at *
          clear o0 hnx hdc hinh
          go_wp2_with fail
          go_returns
          exact ⟨hBV.trans (hbq.mono hBV.size), .inl ⟨by rw [HR.out, HF.out], rfl⟩⟩
      · have hke : log.take k = log := List.take_of_length_le (by omega)
        rw [hke] at hM hok
        have HM := Hid.mk' hM
        have HOK := Hid.mk' hok
        have hki : ¬ (k : Int) < (ln : Int) := by omega
        clear hM hok hke hbx hl
        go_wp2_with fail
        go_returns
        exact ⟨hB, .inr ⟨by rw [HR.out, HOK.out], _, _, rfl, HM.out⟩⟩
  · have hl1 : (1000 : Int) < (ln : Int) := by omega
    clear hbx hl
    go_enter Tryz.func92, Tryz.ntmps92
    go_wp2_with fail
    go_returns
    exact ⟨Below.refl _ _, .inl ⟨by rw [decide_eq_false h1000]; rfl, rfl⟩⟩
end Go.Proofs.YtijplooogplccaaGreat.cos
