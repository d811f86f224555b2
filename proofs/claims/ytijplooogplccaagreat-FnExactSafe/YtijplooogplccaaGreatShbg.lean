/- CoIm CoK CoJ CoL -/
import Derived.Test.YtijplooogplccaaGreatShab
import Derived.Test.YtijplooogplccaaGreatShae
import Derived.Test.YtijplooogplccaaGreatShai
import Derived.Test.YtijplooogplccaaGreatShad
import Derived.Maps.OwnSet
import Derived.Maps.OwnOps
import Derived.Maps.Views
import Derived.DeepKeys4
import Derived.BigQuiet
import Derived.Handy
import Derived.Test.YtijplooogplccaaGreatShbb
import Derived.Test.YtijplooogplccaaGreatShbd
set_option linter.unusedVariables false
set_option linter.unusedSimpArgs false
namespace Go.Proofs.YtijplooogplccaaGreat
namespace cos
open Go Go.RowKit base pairs ords
/-! ### shards that said yes: what stands up to each that is found is cut off -/
def yesCut : List Int → List Int → Bool
 | _, [] => true
 | left, x :: r => match left.findIdx? (fun z => decide (z = x)) with | none => false | some k => yesCut (left.drop (k + 1)) r
def past (p : Option Int) (z : Int) : Bool := match p with | none => true | some q => decide (q < z)
theorem asc_drop {l : List Int} (h : Asc l) {k : Nat} (hk : k < l.length) : l.drop (k + 1) = l.filter (fun z => decide (l[k] < z)) := by
 have e := List.take_append_drop (k + 1) l
 have h1 : (l.take (k + 1)).filter (fun z => decide (l[k] < z)) = [] := by
  refine List.filter_eq_nil_iff.2 fun x hx => ?_
  obtain ⟨i, hi, rfl⟩ := List.getElem_of_mem hx
  rw [List.getElem_take]
  simp only [List.length_take] at hi
  rcases Nat.lt_or_ge i k with hik | hik
  · have := List.pairwise_iff_getElem.1 h i k (by omega) hk hik
    simp; omega
  · have : i = k := by omega
    subst this; simp
 have h2 : (l.drop (k + 1)).filter (fun z => decide (l[k] < z)) = l.drop (k + 1) := by
  refine List.filter_eq_self.2 fun x hx => ?_
  obtain ⟨i, hi, rfl⟩ := List.getElem_of_mem hx
  rw [List.getElem_drop]
  simp only [List.length_drop] at hi
  have := List.pairwise_iff_getElem.1 h k (k + 1 + i) hk (by omega) (by omega)
  simpa using this
 generalize l[k] = y at *
 have h3 : l.filter (fun z => decide (y < z)) = (l.take (k + 1) ++ l.drop (k + 1)).filter (fun z => decide (y < z)) := by rw [e]
 rw [h3, List.filter_append, h1, h2, List.nil_append]
theorem cut_step {list : List Int} (ha : Asc list) (p : Option Int) (x : Int) (r : List Int) : yesCut (list.filter (past p)) (x :: r) = (decide (x ∈ list) && past p x && yesCut (list.filter (past (some x))) r) := by
 have hf : Asc (list.filter (past p)) := List.Pairwise.filter _ ha
 cases e : (list.filter (past p)).findIdx? (fun z => decide (z = x)) with
 | none =>
  have hn : x ∉ list.filter (past p) := fun hm => by
   have := List.findIdx?_eq_none_iff.1 e x hm
   simp at this
  have h0 : (decide (x ∈ list) && past p x) = false := by
   cases hp : past p x
   · simp
   · have : x ∉ list := fun hm => hn (List.mem_filter.2 ⟨hm, hp⟩)
     simp [this]
  have hs : yesCut (list.filter (past p)) (x :: r) = false := by
   conv => lhs; unfold yesCut
   rw [e]
  rw [hs, h0, Bool.false_and]
 | some k =>
  obtain ⟨hk, hp, _⟩ := findIdx_some e
  have hx : (list.filter (past p))[k] = x := of_decide_eq_true hp
  have hm : x ∈ list.filter (past p) := by rw [← hx]; exact List.getElem_mem hk
  obtain ⟨hm1, hm2⟩ := List.mem_filter.1 hm
  have h3 : (list.filter (past p)).drop (k + 1) = list.filter (past (some x)) := by
   rw [asc_drop hf hk, hx, List.filter_filter]
   refine List.filter_congr fun z hz => ?_
   show (decide (x < z) && past p z) = decide (x < z)
   by_cases hlt : x < z
   · have : past p z = true := by
      cases p with
      | none => rfl
      | some q => have := of_decide_eq_true hm2; exact decide_eq_true (by omega)
     rw [this, Bool.and_true]
   · simp [hlt]
  have hs : yesCut (list.filter (past p)) (x :: r) = yesCut ((list.filter (past p)).drop (k + 1)) r := by
   conv => lhs; unfold yesCut
   rw [e]
  rw [hs, h3, decide_eq_true hm1, hm2, Bool.true_and, Bool.true_and]
theorem cut_yes {list : List Int} (ha : Asc list) (p : Option Int) (ys : List Int) : yesCut (list.filter (past p)) ys = yesOk list p ys := by
 induction ys generalizing p with
 | nil => rfl
 | cons x r ih =>
  rw [cut_step ha, ih (some x)]
  cases p <;> rfl
theorem cut_all {list : List Int} (ha : Asc list) (ys : List Int) : yesCut list ys = yesOk list none ys := by
 have := cut_yes ha none ys
 rwa [show list.filter (past none) = list from List.filter_eq_self.2 fun _ _ => rfl] at this
/-! ### choices -/
def has (log : List Ch) (c : Ch) : Bool := decide (c ∈ log)
def decided (log : List Ch) (tx : Int) : Bool := has log (tx, true) || has log (tx, false)
def placeOf (log : List Ch) (c : Ch) : Nat := (log.findIdx? fun d => decide (d = c)).getD 0
theorem decided_iff {log : List Ch} {tx : Int} : decided log tx = true ↔ ∃ y, (tx, y) ∈ log := by
 unfold decided has
 rw [Bool.or_eq_true, decide_eq_true_iff, decide_eq_true_iff]
 constructor
 · rintro (h | h)
   · exact ⟨true, h⟩
   · exact ⟨false, h⟩
 · rintro ⟨y, h⟩
   cases y
   · exact .inr h
   · exact .inl h
theorem choice_of_mem {log : List Ch} (hn : (log.map fun c => c.1).Nodup) {c : Ch} (h : c ∈ log) : choice log c.1 = some c.2 := by
 obtain ⟨i, hi, rfl⟩ := List.getElem_of_mem h
 obtain ⟨hk, e⟩ := choice_some (nodup_iff.1 hn i hi)
 exact e
theorem mem_of_choice {log : List Ch} {tx : Int} {y : Bool} (h : choice log tx = some y) : (tx, y) ∈ log := by
 unfold choice at h
 cases e : log.find? (fun c => decide (c.1 = tx)) with
 | none => rw [e] at h; cases h
 | some c =>
  rw [e] at h
  simp only [Option.map_some, Option.some.injEq] at h
  have h1 := List.mem_of_find?_eq_some e
  have h2 : c.1 = tx := by have h3 := List.find?_some e; simpa using h3
  rw [← h, ← h2]; exact h1
theorem has_choice {log : List Ch} (hn : (log.map fun c => c.1).Nodup) (tx : Int) (y : Bool) : has log (tx, y) = decide (choice log tx = some y) := by
 unfold has
 rw [decide_eq_decide]
 exact ⟨fun h => choice_of_mem hn h, mem_of_choice⟩
theorem decided_choice {log : List Ch} (hn : (log.map fun c => c.1).Nodup) (tx : Int) : decided log tx = (choice log tx).isSome := by
 unfold decided
 rw [has_choice hn, has_choice hn]
 cases choice log tx with
 | none => rfl
 | some y => cases y <;> rfl
theorem logOk_nodup {hi : Int} {log : List Ch} (h : logOk hi log = true) : (log.map fun c => c.1).Nodup := by
 unfold logOk at h
 rw [Bool.and_eq_true, decide_eq_true_iff] at h
 exact h.2
theorem logOk_snoc {hi : Int} {l : List Ch} {c : Ch} : logOk hi (l ++ [c]) = (logOk hi l && (decide (1000 ≤ c.1 ∧ c.1 ≤ hi) && !decided l c.1)) := by
 have hiff : logOk hi (l ++ [c]) = true ↔ (logOk hi l && (decide (1000 ≤ c.1 ∧ c.1 ≤ hi) && !decided l c.1)) = true := by
  unfold logOk
  simp only [Bool.and_eq_true, List.all_append, List.map_append, List.map_cons, List.map_nil, decide_eq_true_iff, Bool.not_eq_true', List.all_cons, List.all_nil, Bool.and_true]
  rw [List.nodup_append]
  constructor
  · rintro ⟨⟨h1, h2⟩, h3, _, h4⟩
    refine ⟨⟨h1, h3⟩, h2, ?_⟩
    cases e : decided l c.1
    · rfl
    · obtain ⟨y, hy⟩ := decided_iff.1 e
      exact absurd rfl (h4 c.1 (List.mem_map.2 ⟨_, hy, rfl⟩) c.1 (by simp))
  · rintro ⟨⟨h1, h3⟩, h2, h4⟩
    refine ⟨⟨h1, h2⟩, h3, by simp, fun a ha b hb e => ?_⟩
    obtain ⟨d, hd, rfl⟩ := List.mem_map.1 ha
    have hb2 : b = c.1 := by simpa using hb
    subst hb2
    have : decided l c.1 = true := decided_iff.2 ⟨d.2, by rw [← e]; exact hd⟩
    rw [this] at h4; cases h4
 cases h1 : logOk hi (l ++ [c]) <;> cases h2 : (logOk hi l && (decide (1000 ≤ c.1 ∧ c.1 ≤ hi) && !decided l c.1)) <;> simp_all
theorem logOk_take {hi : Int} {log : List Ch} {k : Nat} (h : logOk hi log = true) : logOk hi (log.take k) = true := by
 unfold logOk at h ⊢
 simp only [Bool.and_eq_true, decide_eq_true_iff, List.all_eq_true] at h ⊢
 exact ⟨fun c hc => h.1 c (List.mem_of_mem_take hc), by rw [List.map_take]; exact List.Nodup.sublist (List.take_sublist _ _) h.2⟩
theorem logOk_stop {hi : Int} {log : List Ch} {k : Nat} (hk : k < log.length) (h : (decide (1000 ≤ log[k].1 ∧ log[k].1 ≤ hi) && !decided (log.take k) log[k].1) = false) : logOk hi log = false := by
 cases e : logOk hi log
 · rfl
 · have := logOk_take (k := k + 1) e
   rw [List.take_succ_eq_append_getElem hk, logOk_snoc, h] at this
   simp at this
theorem placeOf_snoc {l : List Ch} {c : Ch} (h : c ∉ l) (d : Ch) : placeOf (l ++ [c]) d = if d = c then l.length else placeOf l d := by
 unfold placeOf
 rw [List.findIdx?_append]
 by_cases e : d = c
 · subst e
   rw [if_pos rfl, List.findIdx?_eq_none_iff.2 (fun x hx => decide_eq_false fun (e2 : x = d) => h (e2 ▸ hx))]
   simp [List.findIdx?_cons]
 · rw [if_neg e]
   have : ([c] : List Ch).findIdx? (fun x => decide (x = d)) = none := by
    rw [List.findIdx?_eq_none_iff]
    intro x hx
    have : x = c := by simpa using hx
    subst this
    exact decide_eq_false fun e2 => e e2.symm
   rw [this]
   cases List.findIdx? (fun x => decide (x = d)) l <;> rfl
theorem has_snoc {l : List Ch} {c : Ch} (d : Ch) : has (l ++ [c]) d = (has l d || decide (d = c)) := by
 unfold has; simp [Bool.decide_or]
/-! ### what is told: the program's way -/
end cos
namespace cos
open Go Go.RowKit base pairs ords lay wds
abbrev chV (tx : Int) (y : Bool) : Value := .agg #[.int .i64 tx, .bool y]
def chK (tx : Int) (y : Bool) : Lit := .string (keyBytes [.int .i64 tx, .bool y])
theorem keyCh : Maps.Keyed Tryz.prog 94 := Maps.Keyed.of_law (deep_law_laid (by kernel_rfl) (m := 2) (by decide) (of_decide_eq_true (by kernel_rfl)) (by kernel_rfl) (by kernel_rfl))
theorem zeroI (w : World) : (zeroValue 3).run Tryz.prog w = .ok (.int .i64 0) w := by kernel_rfl
theorem keyOf_ch {tx : Int} {y : Bool} (h : (Lit.int .i64 tx).wf = true) : keyOf Tryz.prog 94 (chV tx y) = some (chK tx y) := by
 have hkt : Tryz.prog.keyType 94 = true := by kernel_rfl
 have hfm : (chV tx y).formed Tryz.prog 94 = true := by kernel_rfl
 obtain ⟨m, hm⟩ : ∃ m, Tryz.prog.types.size = m + 1 := ⟨Tryz.prog.types.size - 1, by kernel_rfl⟩
 have c0 : Tryz.prog.cellsOf 3 = 1 := by kernel_rfl
 have c1 : Tryz.prog.cellsOf 4 = 1 := by kernel_rfl
 have c2 : Tryz.prog.cellsOf 94 = 2 := by kernel_rfl
 unfold keyOf
 simp only [Tryz.underlying94]
 rw [if_pos (by rw [hkt, hfm]; rfl), hm]
 unfold Program.keyLits
 simp only [Tryz.underlying94, Value.cells]
 rw [if_pos ⟨by rw [c2]; rfl, by kernel_rfl⟩]
 simp [List.mapM_cons, List.mapM_nil, c0, c1, Program.keyLits, Tryz.underlying3, Tryz.underlying4, h, chK]
theorem chK_ne {tx tx' : Int} {y y' : Bool} (h : (Lit.int .i64 tx).wf = true) (h' : (Lit.int .i64 tx').wf = true) (hne : (tx, y) ≠ (tx', y')) : chK tx y ≠ chK tx' y' := fun e => by
 have h1 := keyOf_ch (y := y) h
 have h2 := keyOf_ch (y := y') h'
 rw [← e] at h2
 have := keyCh.inj h1 h2
 simp only [chV, Value.agg.injEq, Array.mk.injEq, List.cons.injEq, Value.int.injEq, Value.bool.injEq, true_and, and_true] at this
 exact hne (Prod.ext this.1 this.2)
theorem lit_injC {a b : Int} (h : (DataW.lit (.int .i64 a) : DataW Unit) = .lit (.int .i64 b)) : a = b := by
 cases h; rfl
def Made (w : World) (B n : Nat) (log : List Ch) : Prop :=
 ∃ D : DataW Unit, w.ownsMap Tryz.prog 94 (plainElem Tryz.prog 3) B n D ∧ ∀ c : Ch, (Lit.int .i64 c.1).wf = true → Maps.has D (chK c.1 c.2) = has log c ∧ D.atKey (chK c.1 c.2) (.lit (.int .i64 0)) = .lit (.int .i64 (placeOf log c : Int))
section
variable {w w' : World} {B n : Nat} {log : List Ch}
theorem made_new (w : World) : Made (w.alloc (.map #[] 0)) w.heap.size 0 [] :=
 ⟨.map [], World.ownsMap_made _ _ _ _, fun c hc => ⟨rfl, rfl⟩⟩
theorem Made.lt (h : Made w B n log) : B < w.heap.size := by
 obtain ⟨D, ⟨es, clock, hb, _⟩, _⟩ := h
 exact (Array.getElem?_eq_some_iff.1 hb).1
theorem Made.keep (h : Made w B n log) (hk : w'.heap[B]? = w.heap[B]?) : Made w' B n log := by
 obtain ⟨D, ⟨es, clock, hb, r⟩, h3⟩ := h
 exact ⟨D, ⟨es, clock, hk.trans hb, r⟩, h3⟩
theorem Made.below (h : Made w B n log) (hb : Below w.heap.size w w') : Made w' B n log := h.keep (hb.block B h.lt)
theorem Made.look (h : Made w B n log) {tx : Int} {y : Bool} (hw : (Lit.int .i64 tx).wf = true) : (Instr.lookup 119 (.map (some B)) (chV tx y) true).run Tryz.prog w = .ok (.tuple #[.int .i64 (placeOf log (tx, y) : Int), .bool (has log (tx, y))]) w := by
 obtain ⟨D, h1, h3⟩ := h
 obtain ⟨v, ps, hrun, hR⟩ := h1.look_ok keyCh Tryz.underlying119 (zeroI w) (plainElem_int Tryz.underlying3 (by decide)) (keyOf_ch (y := y) hw)
 obtain ⟨hh, ha⟩ := h3 (tx, y) hw
 simp only [] at hh ha
 rw [ha] at hR
 obtain ⟨c, rfl, hc, _⟩ := plainElem_int_inv Tryz.underlying3 hR
 have hc2 : (placeOf log (tx, y) : Int) = c := lit_injC (congrArg Prod.fst hc)
 rw [hrun, hh, hc2]
end
set_option maxRecDepth 100000 in
set_option maxHeartbeats 1000000 in
theorem i_has (B m : Nat) (log : List Ch) (tx : Int) (y : Bool) (w : World) (h : Made w B m log) (hw : (Lit.int .i64 tx).wf = true) :
 Calls Tryz.prog 145 #[.map (some B), chV tx y] w fun e w' => e = .returned (.bool (has log (tx, y))) ∧ Below w.heap.size w w' := by
 have hb := below_new w (.cells #[.int .i64 tx, .bool y] 94)
 have hlk := (h.below hb).look (y := y) hw
 generalize placeOf log (tx, y) = pl at *
 generalize has log (tx, y) = r at *
 clear h hw
 go_enter Tryz.func145, Tryz.ntmps145
 go_wp2_with fail
 go_ret
 exact ⟨rfl, hb⟩
set_option maxRecDepth 100000 in
set_option maxHeartbeats 1000000 in
theorem i_decided (B m : Nat) (log : List Ch) (tx : Int) (w : World) (h : Made w B m log) (hw : (Lit.int .i64 tx).wf = true) :
 Calls Tryz.prog 133 #[.map (some B), .int .i64 tx] w fun e w' => e = .returned (.bool (decided log tx)) ∧ Below w.heap.size w w' := by
 have H1 := Hid.mk' (i_has B m log tx true w h hw)
 have H2 := Hid.mk' (fun wx (hx : Below w.heap.size w wx) => i_has B m log tx false wx (h.below hx) hw)
 have HR : Hid (decided log tx = (has log (tx, true) || has log (tx, false))) := rfl
 clear h hw
 cases h1 : has log (tx, true)
 · rw [h1] at H1 HR
   clear h1
   generalize has log (tx, false) = r at *
   go_enter Tryz.func133, Tryz.ntmps133
   go_wp2_with fail
   refine H1.out.mono ?_
   rintro e w1 ⟨rfl, hb1⟩
   go_wp2_with fail
   refine (H2.out _ hb1).mono ?_
   rintro e w2 ⟨rfl, hb2⟩
   go_wp2_with fail
   go_ret
   exact ⟨ret_bool (by rw [HR.out]; rfl), hb1.trans (hb2.mono hb1.size)⟩
 · rw [h1] at H1 HR
   clear h1 H2
   go_enter Tryz.func133, Tryz.ntmps133
   go_wp2_with fail
   refine H1.out.mono ?_
   rintro e w1 ⟨rfl, hb1⟩
   go_wp2_with fail
   go_ret
   exact ⟨ret_bool (by rw [HR.out]; rfl), hb1⟩
/-! ### numbers of transactions -/
section
variable (X : Nat) (T : TypeId) (pre post : List Value) (n life next sure : Int) (ja : Option Addr) (jn jc : Nat) (la : Option Addr) (ln lc : Nat) (w : World)
theorem i_firstTx (h : BoxIn X T pre (coVals n life next sure ja jn jc la ln lc) post w) (hl : 1 ≤ life ∧ life ≤ 900) :
 Calls Tryz.prog 101 #[.pointer (some ⟨X, pre.length, none⟩)] w fun e w' => e = .returned (.int .i64 (life * 1000)) ∧ w' = w := by
 have w1 : IntKind.i64.wrap (life * 1000) = life * 1000 := by rw [IntKind.wrap_i64]; omega
 have c1 := h.cell 1 _ rfl
 clear h
 go_enter Tryz.func101, Tryz.ntmps101
 go_wp2_with fail
 go_ret
 exact ⟨rfl, rfl⟩
set_option maxRecDepth 100000 in
set_option maxHeartbeats 1000000 in
theorem i_nextTx (h : BoxIn X T pre (coVals n life next sure ja jn jc la ln lc) post w) (hl : 1 ≤ life ∧ life ≤ 900) (hn : 0 ≤ next ∧ next ≤ 999) :
 Calls Tryz.prog 61 #[.pointer (some ⟨X, pre.length, none⟩)] w fun e w' => e = .returned (.int .i64 (life * 1000 + next)) ∧ Below w.heap.size w w' := by
 have w2 : IntKind.i64.wrap (life * 1000 + next) = life * 1000 + next := by rw [IntKind.wrap_i64]; omega
 have c2 := h.cell 2 _ rfl
 have hX := h.lt
 have o2 := last.On.cell c2 hX
 have hinh := last.On.inh w.heap.size w
 have hcall : ∀ x : last.On w.heap.size w, Calls Tryz.prog 101 #[.pointer (some ⟨X, pre.length, none⟩)] x.w fun e w' => e = .returned (.int .i64 (life * 1000)) ∧ ∃ y : last.On w.heap.size w, w' = y.w := fun x => last.Calls.on x (Nat.le_refl _) ((i_firstTx X T pre post n life next sure ja jn jc la ln lc x.w (h.below x.2) hl).mono fun e w' ⟨he, hw⟩ => ⟨he, by rw [hw]; exact Below.refl _ _⟩)
 clear h c2
 go_enter Tryz.func61, Tryz.ntmps61
 go_wp2_with fail
 refine last.wp_region_on w.heap.size (by kernel_rfl) (by kernel_rfl) ?_
 repeat (go_big_quiet_step ((first | (go_at_call 101; with_reducible exact hcall _))))
 refine wpQuiet_nil ?_
 intro wq hwq
 obtain ⟨xq, hwq⟩ := hwq
 subst hwq
 have hbq : Below w.heap.size w xq.w := xq.2
 generalize xq.w = w4 at *
 clear o2 hcall hinh
 go_wp2_with fail
 go_ret
 exact ⟨rfl, hbq⟩
end
end cos
namespace cos
open Go Go.RowKit base pairs ords lay wds
def ChPost (w : World) (ln : Nat) (hi : Int) (log : List Ch) (e : Ending) (w' : World) : Prop :=
 Below w.heap.size w w' ∧ (((decide (ln ≤ 1000) && logOk hi log) = false ∧ e = .returned (.tuple #[.map none, .bool false])) ∨ ((decide (ln ≤ 1000) && logOk hi log) = true ∧ ∃ B m, e = .returned (.tuple #[.map (some B), .bool true]) ∧ Made w' B m log))
theorem ch_wf {w : World} {a : Option Addr} {len : Nat} {l : List Ch} (h : SlG chR w a len l) (i : Nat) (hi : i < l.length) : (Lit.int .i64 l[i].1).wf = true := by
 obtain ⟨vs, hv⟩ := h.2.2.1 l[i] (List.getElem_mem hi)
 exact (flat_ch.see.1 hv).2.1
theorem Made.put {w' : World} {B n : Nat} {log : List Ch} {D : DataW Unit} {c : Ch} (hD : Maps.IsMap D) (h3 : ∀ d : Ch, (Lit.int .i64 d.1).wf = true → Maps.has D (chK d.1 d.2) = has log d ∧ D.atKey (chK d.1 d.2) (.lit (.int .i64 0)) = .lit (.int .i64 (placeOf log d : Int))) (hw : (Lit.int .i64 c.1).wf = true) (hn : c ∉ log)
 (h1 : w'.ownsMap Tryz.prog 94 (plainElem Tryz.prog 3) B n (D.put (chK c.1 c.2) (.lit (.int .i64 (log.length : Int))))) : Made w' B n (log ++ [c]) := by
 refine ⟨_, h1, fun d hd => ?_⟩
 rw [has_snoc, placeOf_snoc hn]
 by_cases e : d = c
 · subst e
   rw [Maps.has_put_same hD (keyCh.key (keyOf_ch (y := d.2) hd)), Maps.atKey_put_same hD (keyCh.key (keyOf_ch (y := d.2) hd)), if_pos rfl]
   exact ⟨by simp, rfl⟩
 · have hne := chK_ne (y := d.2) (y' := c.2) hd hw (fun e2 => e e2)
   rw [Maps.has_put_other hne, Maps.atKey_put_other hne, if_neg e, (h3 d hd).1, (h3 d hd).2]
   exact ⟨by simp [e], rfl⟩
set_option maxRecDepth 100000 in
set_option maxHeartbeats 2000000 in
theorem i_choicesOf (X : Nat) (T : TypeId) (pre post : List Value) (n life next sure : Int) (ja : Option Addr) (jn jc : Nat) (la : Option Addr) (ln lc : Nat) (log : List Ch) (w : World) (hbx : BoxIn X T pre (coVals n life next sure ja jn jc la ln lc) post w) (hl : SlG chR w la ln log) (hlf : 1 ≤ life ∧ life ≤ 900) (hnx0 : 0 ≤ next ∧ next ≤ 999) :
 Calls Tryz.prog 92 #[.pointer (some ⟨X, pre.length, none⟩)] w (ChPost w ln (life * 1000 + next - 1) log) := by
 have hll := hl.1
 have hlm := hl.2.1
 unfold maxLen at hlm
 have c4 := hbx.cell 4 _ rfl
 obtain ⟨hi, hhi⟩ : ∃ hi : Int, life * 1000 + next - 1 = hi := ⟨_, rfl⟩
 rw [hhi]
 have HHI := Hid.mk' hhi
 clear hhi
 by_cases h1000 : ln ≤ 1000
 · have hl1 : ¬ (1000 : Int) < (ln : Int) := by omega
   have HR : Hid ((decide (ln ≤ 1000) && logOk hi log) = logOk hi log) := by show _ = _; rw [decide_eq_true h1000, Bool.true_and]
   have hmm := @run_makeMap Tryz.prog
   have hb0 : Below w.heap.size w (w.alloc (.map #[] 0)) := below_new _ _
   have d4 := (hbx.below hb0).cell 4 _ rfl
   go_enter Tryz.func92, Tryz.ntmps92
   go_wp2_with (at_builtin; fail)
   go_loopw [19] (fun i wr => ∃ k : Nat, k ≤ ln ∧ i = .int .i64 (k : Int) ∧ Made wr w.heap.size k (log.take k) ∧ logOk hi (log.take k) = true ∧ Below w.heap.size w wr) (fun i _ => ln - (intOf i).toNat)
   case atStart => exact ⟨0, Nat.zero_le _, rfl, made_new w, rfl, hb0⟩
   case round =>
    obtain ⟨k, hk, rfl, hM, hok, hB⟩ := hrel
    clear hmm c4 d4 hb0
    by_cases hlt : k < ln
    · have hltl : k < log.length := by omega
      obtain ⟨b, off, e⟩ := slg_some hl (by omega)
      subst e
      have hS := hl.below hB
      obtain ⟨e0, e1⟩ := ch_at hS k hltl
      have hwf := ch_wf hS k hltl
      have hki : (k : Int) < (ln : Int) := by omega
      have HST : Hid ((decide (1000 ≤ log[k].1 ∧ log[k].1 ≤ hi) && !decided (log.take k) log[k].1) = false → logOk hi log = false) := logOk_stop hltl
      have HGO : Hid ((decide (1000 ≤ log[k].1 ∧ log[k].1 ≤ hi) && !decided (log.take k) log[k].1) = true → logOk hi (log.take (k + 1)) = true) := fun e => by
       rw [List.take_succ_eq_append_getElem hltl, logOk_snoc, hok, e]; rfl
      have HTK : Hid (log.take (k + 1) = log.take k ++ [log[k]]) := List.take_succ_eq_append_getElem hltl
      have HLK : Hid ((log.take k).length = k) := by show _ = _; simp; omega
      have HMEM : Hid (decided (log.take k) log[k].1 = false → log[k] ∉ log.take k) := fun e hm => by
       have : decided (log.take k) log[k].1 = true := decided_iff.2 ⟨log[k].2, hm⟩
       rw [e] at this; cases this
      generalize log[k] = c at *
      obtain ⟨tx, y⟩ := c
      simp only [] at *
      obtain ⟨V, hV⟩ : ∃ V, wr.alloc (.cells #[.int .i64 tx, .bool y] 94) = V := ⟨_, rfl⟩
      have hbv : Below wr.heap.size wr V := by rw [← hV]; exact below_new _ _
      have q0 : V.cell? ⟨wr.heap.size, 0, none⟩ = some (.int .i64 tx) := by rw [← hV]; simp
      have q1 : V.cell? ⟨wr.heap.size, 1, none⟩ = some (.bool y) := by rw [← hV]; simp
      have hBV := hB.trans (hbv.mono hB.size)
      have hMV := hM.below hbv
      have hxV := hbx.below hBV
      have o0 := last.On.cell (B := V.heap.size) q0 (World.block_lt_of_cell? _ _ q0)
      have hinh := last.On.inh V.heap.size V
      have hnx : ∀ x : last.On V.heap.size V, Calls Tryz.prog 61 #[.pointer (some ⟨X, pre.length, none⟩)] x.w fun e w' => e = .returned (.int .i64 (life * 1000 + next)) ∧ ∃ y : last.On V.heap.size V, w' = y.w := fun x => last.Calls.on x (Nat.le_refl _) (i_nextTx X T pre post n life next sure ja jn jc _ ln lc x.w (hxV.below x.2) hlf hnx0)
      have hdc : ∀ x : last.On V.heap.size V, Calls Tryz.prog 133 #[.map (some w.heap.size), .int .i64 tx] x.w fun e w' => e = .returned (.bool (decided (log.take k) tx)) ∧ ∃ y : last.On V.heap.size V, w' = y.w := fun x => last.Calls.on x (Nat.le_refl _) (i_decided w.heap.size k (log.take k) tx x.w (hMV.below x.2) hwf)
      have HV := Hid.mk' hV
      have HMV := Hid.mk' hMV
      clear hV hM hbx hl hS hbv hB hxV hMV
      by_cases ht1 : tx < 1000
      · have HF : Hid (logOk hi log = false) := HST.out (by rw [decide_eq_false (by omega)]; rfl)
        clear HST HGO HMEM
        have htd : decide (tx < 1000) = true := decide_eq_true ht1
        go_wp2_with fail
        rw [HV.out]
        refine last.wp_region_on V.heap.size (by kernel_rfl) (by kernel_rfl) ?_
        repeat (go_big_quiet_step ((first | (go_at_call 61; with_reducible exact hnx _) | (go_at_call 133; with_reducible exact hdc _))))
        refine wpQuiet_nil ?_
        intro wq hwq
        obtain ⟨xq, hwq⟩ := hwq
        subst hwq
        have hbq : Below V.heap.size V xq.w := xq.2
        generalize xq.w = w4 at *
        clear o0 hnx hdc hinh
        go_wp2_with fail
        go_returns
        exact ⟨hBV.trans (hbq.mono hBV.size), .inl ⟨by rw [HR.out, HF.out], rfl⟩⟩
      have htd : decide (tx < 1000) = false := decide_eq_false ht1
      by_cases ht2 : life * 1000 + next ≤ tx
      · have hte : decide (life * 1000 + next ≤ tx) = true := decide_eq_true ht2
        have HF : Hid (logOk hi log = false) := HST.out (by have := HHI.out; rw [decide_eq_false (by omega)]; rfl)
        clear HST HGO HMEM
        go_wp2_with fail
        rw [HV.out]
        refine last.wp_region_on V.heap.size (by kernel_rfl) (by kernel_rfl) ?_
        repeat (go_big_quiet_step ((first | (go_at_call 61; with_reducible exact hnx _) | (go_at_call 133; with_reducible exact hdc _))))
        refine wpQuiet_nil ?_
        intro wq hwq
        obtain ⟨xq, hwq⟩ := hwq
        subst hwq
        have hbq : Below V.heap.size V xq.w := xq.2
        generalize xq.w = w4 at *
        clear o0 hnx hdc hinh
        go_wp2_with fail
        go_returns
        exact ⟨hBV.trans (hbq.mono hBV.size), .inl ⟨by rw [HR.out, HF.out], rfl⟩⟩
      have hte : decide (life * 1000 + next ≤ tx) = false := decide_eq_false ht2
      cases hdd : decided (log.take k) tx
      · have HG : Hid (logOk hi (log.take (k + 1)) = true) := HGO.out (by have := HHI.out; rw [hdd, decide_eq_true (by omega)]; rfl)
        have HNM : Hid ((tx, y) ∉ log.take k) := HMEM.out hdd
        rw [hdd] at hdc
        clear HST HGO HMEM hdd
        go_wp2_with fail
        rw [HV.out]
        refine last.wp_region_on V.heap.size (by kernel_rfl) (by kernel_rfl) ?_
        repeat (go_big_quiet_step ((first | (go_at_call 61; with_reducible exact hnx _) | (go_at_call 133; with_reducible exact hdc _))))
        refine wpQuiet_nil ?_
        intro wq hwq
        obtain ⟨xq, hwq⟩ := hwq
        subst hwq
        have hbq : Below V.heap.size V xq.w := xq.2
        generalize xq.w = w4 at *
        clear o0 hnx hdc hinh
        have hB4 := hBV.trans (hbq.mono hBV.size)
        obtain ⟨D, hown, h3⟩ := HMV.out.below hbq
        have H3 := Hid.mk' h3
        have g0 : w4.cell? ⟨wr.heap.size, 0, none⟩ = some (.int .i64 tx) := (hbq.cell (p := ⟨wr.heap.size, 0, none⟩) (World.block_lt_of_cell? _ _ q0)).trans q0
        have g1 : w4.cell? ⟨wr.heap.size, 1, none⟩ = some (.bool y) := (hbq.cell (p := ⟨wr.heap.size, 1, none⟩) (World.block_lt_of_cell? _ _ q1)).trans q1
        have hkey := keyOf_ch (y := y) hwf
        clear h3 q0 q1 e0 e1
        go_wp2_with (at_mapUpdate; refine wpList_mapUpdate_own _ rfl _ _ _ 119 rfl 94 3 keyCh Tryz.underlying119 _ w.heap.size k D rfl hown (by unfold maxLen; omega) _ _ _ rfl rfl hkey _ [] (plainElem_int Tryz.underlying3 (WalkArith.wf_i64 (by omega))) ?_)
        intro w5 hown5 hgrow5
        have hM5 : Made w5 w.heap.size (k + 1) (log.take (k + 1)) := by
         rw [HTK.out]
         exact Made.put hown.isMap H3.out hwf HNM.out (by rw [HLK.out]; exact hown5)
        have hB5 := hB4.grown hgrow5 hB4.size (fun j hj => by cases hj; exact Nat.le_refl _)
        clear hown5 hgrow5 hown
        go_wp2_with fail
        go_roundw
        case rel => exact ⟨k + 1, by omega, by go_num, hM5, HG.out, hB5⟩
        case measure => simp [intOf]; omega
      · have HF : Hid (logOk hi log = false) := HST.out (by rw [hdd]; simp)
        rw [hdd] at hdc
        clear HST HGO HMEM hdd
        go_wp2_with fail
        rw [HV.out]
        refine last.wp_region_on V.heap.size (by kernel_rfl) (by kernel_rfl) ?_
        repeat (go_big_quiet_step ((first | (go_at_call 61; with_reducible exact hnx _) | (go_at_call 133; with_reducible exact hdc _))))
        refine wpQuiet_nil ?_
        intro wq hwq
        obtain ⟨xq, hwq⟩ := hwq
        subst hwq
        have hbq : Below V.heap.size V xq.w := xq.2
        generalize xq.w = w4 at *
        clear o0 hnx hdc hinh
        go_wp2_with fail
        go_returns
        exact ⟨hBV.trans (hbq.mono hBV.size), .inl ⟨by rw [HR.out, HF.out], rfl⟩⟩
    · have hke : log.take k = log := List.take_of_length_le (by omega)
      rw [hke] at hM hok
      have HM := Hid.mk' hM
      have HOK := Hid.mk' hok
      have hki : ¬ (k : Int) < (ln : Int) := by omega
      clear hM hok hke hbx hl
      go_wp2_with fail
      go_returns
      exact ⟨hB, .inr ⟨by rw [HR.out, HOK.out], _, _, rfl, HM.out⟩⟩
 · have hl1 : (1000 : Int) < (ln : Int) := by omega
   clear hbx hl
   go_enter Tryz.func92, Tryz.ntmps92
   go_wp2_with fail
   go_returns
   exact ⟨Below.refl _ _, .inl ⟨by rw [decide_eq_false h1000]; rfl, rfl⟩⟩
end cos
namespace cos
open Go Go.RowKit base pairs ords lay wds
set_option maxRecDepth 100000 in
set_option maxHeartbeats 1000000 in
theorem i_index (a : Option Addr) (len cap : Nat) (zs : List Int) (x : Int) (w : World) (h : SlZ w a len zs) :
 Calls Tryz.prog 154 #[.slice a len cap, .int .i64 x] w fun e w' => e = .returned (.int .i64 (idx (zs.findIdx? fun z => decide (z = x)))) ∧ w' = w := by
 obtain ⟨hl, hm, hc⟩ := h
 subst hl
 unfold maxLen at hm
 go_enter Tryz.func154, Tryz.ntmps154
 go_wp2
 go_loop [8] (fun i => ∃ k : Nat, k ≤ zs.length ∧ i = .int .i64 (k : Int) ∧ ∀ j (hj : j < k) (hjl : j < zs.length), zs[j] ≠ x) (fun i => zs.length - (intOf i).toNat)
 case atStart => exact ⟨0, Nat.zero_le _, rfl, fun j hj => absurd hj (by omega)⟩
 case round =>
  obtain ⟨k, hk, rfl, hall⟩ := hrel
  have HALL := Hid.mk' hall
  clear hall
  by_cases hlt : k < zs.length
  · obtain ⟨b, off, ha, hcl⟩ := hc (by omega)
    subst ha
    have hat := hcl k hlt
    have hki : (k : Int) < (zs.length : Int) := by omega
    by_cases ht : zs[k] = x
    · have HF : Hid (idx (zs.findIdx? fun z => decide (z = x)) = (k : Int)) := by
       show _ = _
       rw [show zs.findIdx? (fun z => decide (z = x)) = some k from findIdx_hit hlt (fun i hi => decide_eq_false (HALL.out i hi (by omega))) (decide_eq_true ht)]
       rfl
      rw [ht] at hat
      clear ht HALL hcl hc
      go_wp2
      go_ret
      exact ⟨ret_int HF.out.symm, rfl⟩
    · have HN : Hid (∀ j (hj : j < k + 1) (hjl : j < zs.length), zs[j] ≠ x) := fun j hj hjl => by
       rcases Nat.lt_succ_iff_lt_or_eq.1 hj with e | e
       · exact HALL.out j e hjl
       · subst e; exact ht
      generalize zs[k] = y at *
      have htb : (x == y) = false := beq_eq_false_iff_ne.2 fun e => ht e.symm
      clear HALL hcl
      go_wp2
      go_round
      case rel => exact ⟨k + 1, by omega, by go_num, HN.out⟩
      case measure => simp [intOf]; omega
  · have hnk : ¬ (k : Int) < (zs.length : Int) := by omega
    have HF : Hid (idx (zs.findIdx? fun z => decide (z = x)) = -1) := by
     show _ = _
     rw [show zs.findIdx? (fun z => decide (z = x)) = none from findIdx_none (fun i hi => decide_eq_false (HALL.out i (by omega) hi))]
     rfl
    clear HALL hc
    go_wp2
    go_ret
    exact ⟨ret_int HF.out.symm, rfl⟩
theorem slz_drop {w : World} {b off len : Nat} {zs : List Int} (h : SlZ w (some ⟨b, off, none⟩) len zs) (k : Nat) (hk : k ≤ len) : SlZ w (some ⟨b, off + k, none⟩) (len - k) (zs.drop k) := by
 have hl := h.1
 have hm := h.2.1
 have hc := h.cells
 refine ⟨by simp; omega, by omega, fun h0 => ⟨b, off + k, rfl, fun i hi => ?_⟩⟩
 have hi2 : k + i < zs.length := by simp at hi; omega
 rw [Nat.add_assoc, hc (k + i) hi2, List.getElem_drop]
theorem slz_none {w : World} {a : Option Addr} : SlZ w a 0 [] := ⟨rfl, Nat.zero_le _, fun h => absurd h (by omega)⟩
theorem yesCut_step (left ys : List Int) (k : Nat) (hk : k < ys.length) : yesCut left (ys.drop k) = match left.findIdx? (fun z => decide (z = ys[k])) with | none => false | some i => yesCut (left.drop (i + 1)) (ys.drop (k + 1)) := by
 rw [List.drop_eq_getElem_cons hk]
 rfl
set_option maxRecDepth 100000 in
set_option maxHeartbeats 2000000 in
theorem i_yesOk (b off : Nat) (tx st n : Int) (ob ooff ol oc : Nat) (ya : Option Addr) (yl yc : Nat) (ops : List Od) (ys : List Int) (w : World) (c1 : w.cell? ⟨b, off + 1, none⟩ = some (.slice (some ⟨ob, ooff, none⟩) ol oc)) (c3 : w.cell? ⟨b, off + 3, none⟩ = some (.slice ya yl yc)) (hO : SlO w (some ⟨ob, ooff, none⟩) ol ops) (hY : SlZ w ya yl ys) (hks : ∀ p ∈ ops, p.2.1.size ≤ 1099511627776) (hsz : ol ≤ 1099511627776) (hn : (Lit.int .i64 n).wf = true) :
 Calls Tryz.prog 134 #[.pointer (some ⟨b, off, none⟩), .int .i64 n] w fun e w' => e = .returned (.bool (yesOk (shardsOf n ops) none ys)) ∧ Below w.heap.size w w' := by
 have hyl := hY.1
 have hym := hY.2.1
 unfold maxLen at hym
 rw [← cut_all (shards_asc n ops)]
 have HS := Hid.mk' (impl_shardsOf ob ooff ol oc ops n w hO hks hsz hn)
 have hbl := World.block_lt_of_cell? _ _ c3
 generalize hR : yesCut (shardsOf n ops) ys = R
 have HR := Hid.mk' hR
 clear hO hks hsz hn hR
 generalize shardsOf n ops = sh at *
 go_enter Tryz.func134, Tryz.ntmps134
 go_wp2_with fail
 refine HS.out.mono ?_
 rintro e w1 ⟨g, m, cp, rfl, hOZ, hb1⟩
 have d3 := (hb1.cell (p := ⟨b, off + 3, none⟩) hbl).trans c3
 have hcp := hOZ.cases
 have hSZ := hOZ.sl
 have HY := Hid.mk' (hY.below hb1)
 clear c1 c3 HS hOZ hY
 go_wp2_with fail
 go_loop [20, 5] (fun i s => ∃ (k sb so sn sc : Nat) (left : List Int), k ≤ yl ∧ i = .int .i64 (k : Int) ∧ s = .slice (some ⟨sb, so, none⟩) sn sc ∧ SlZ w1 (some ⟨sb, so, none⟩) sn left ∧ sn ≤ sc ∧ sc ≤ maxLen ∧ yesCut left (ys.drop k) = R) (fun i _ => yl - (intOf i).toNat)
 case atStart => exact ⟨0, _, _, _, _, sh, Nat.zero_le _, rfl, rfl, hSZ, hcp.1, hcp.2, HR.out⟩
 case round =>
  obtain ⟨k, sb, so, sn, sc, left, hk, rfl, rfl, hL, hnc, hcm, hres⟩ := hrel
  clear hSZ hcp d3
  have hcm2 := hcm
  unfold maxLen at hcm2
  by_cases hlt : k < yl
  · have hltl : k < ys.length := by omega
    obtain ⟨yb, yo, e, hyc⟩ := HY.out.2.2 (by omega)
    subst e
    have hat := hyc k hltl
    have hki : (k : Int) < (yl : Int) := by omega
    have hst := yesCut_step left ys k hltl
    have HIX := i_index (some ⟨sb, so, none⟩) sn sc left ys[k] w1 hL
    rw [hst] at hres
    generalize ys[k] = y at *
    cases hix : left.findIdx? (fun z => decide (z = y)) with
    | none =>
     rw [hix] at hres HIX
     have HRE := Hid.mk' hres
     have HI := Hid.mk' HIX
     rw [idx_none] at HI
     clear hres hst hix HIX hyc
     go_wp2_with fail
     refine HI.out.mono ?_
     rintro e w2 ⟨rfl, hw2⟩
     replace hw2 := hw2.symm
     subst hw2
     go_wp2_with fail
     go_ret
     exact ⟨ret_bool HRE.out, hb1⟩
    | some j =>
     rw [hix] at hres HIX
     have hjl : j < left.length := (findIdx_some hix).1
     have hll := hL.1
     have HRE := Hid.mk' hres
     have HI := Hid.mk' HIX
     rw [idx_some] at HI
     have hj1 : ((j : Int) + 1) ≤ (sc : Int) := by omega
     have hj2 : ((j : Int) + 1) ≤ (sn : Int) := by omega
     clear hres hst hix HIX hyc
     go_wp2_with fail
     refine HI.out.mono ?_
     rintro e w2 ⟨rfl, hw2⟩
     replace hw2 := hw2.symm
     subst hw2
     go_wp2_with fail
     go_round
     case rel =>
      have hml : maxLen = 2 ^ 63 - 1 := rfl
      by_cases hsc : sc = j + 1
      · have hd : left.drop (j + 1) = [] := List.drop_eq_nil_of_le (by omega)
        exact ⟨k + 1, sb, so, sn - (j + 1), sc - (j + 1), left.drop (j + 1), by omega, by go_num, by rw [if_pos hsc], by rw [hd, show sn - (j + 1) = 0 by omega]; exact slz_none, by omega, by omega, HRE.out⟩
      · exact ⟨k + 1, sb, so + (j + 1), sn - (j + 1), sc - (j + 1), left.drop (j + 1), by omega, by go_num, by rw [if_neg hsc], slz_drop hL (j + 1) (by omega), by omega, by omega, HRE.out⟩
     case measure => simp [intOf]; omega
  · have hke : ys.drop k = [] := List.drop_eq_nil_of_le (by omega)
    rw [hke] at hres
    have HRE : Hid (R = true) := by show _ = _; rw [← hres]; unfold yesCut; rfl
    have hki : ¬ (k : Int) < (yl : Int) := by omega
    clear hres
    go_wp2_with fail
    go_ret
    exact ⟨ret_bool HRE.out.symm, hb1⟩
def stateI (log : List Ch) (tx st : Int) : Bool := if st = 1 then !decided log tx else if st = 2 then has log (tx, true) else if st = 3 then has log (tx, false) else false
theorem stateI_eq {log : List Ch} (hn : (log.map fun c => c.1).Nodup) (tx st : Int) : stateI log tx st = (decide (1 ≤ st ∧ st ≤ 3) && stateOk st (choice log tx)) := by
 unfold stateI
 rw [decided_choice hn, has_choice hn, has_choice hn]
 by_cases h1 : st = 1
 · subst h1
   rw [if_pos rfl]
   rcases choice log tx with _ | y
   · rfl
   · cases y <;> rfl
 by_cases h2 : st = 2
 · subst h2
   rw [if_neg (by decide), if_pos rfl]
   rcases choice log tx with _ | y
   · rfl
   · cases y <;> rfl
 by_cases h3 : st = 3
 · subst h3
   rw [if_neg (by decide), if_neg (by decide), if_pos rfl]
   rcases choice log tx with _ | y
   · rfl
   · cases y <;> rfl
 rw [if_neg h1, if_neg h2, if_neg h3, decide_eq_false (by omega)]; rfl
set_option maxRecDepth 100000 in
set_option maxHeartbeats 2000000 in
theorem i_stateOk (b off : Nat) (tx st : Int) (B m : Nat) (log : List Ch) (w : World) (c0 : w.cell? ⟨b, off, none⟩ = some (.int .i64 tx)) (c2 : w.cell? ⟨b, off + 2, none⟩ = some (.int .i64 st)) (hM : Made w B m log) (hw : (Lit.int .i64 tx).wf = true) :
 Calls Tryz.prog 135 #[.pointer (some ⟨b, off, none⟩), .map (some B)] w fun e w' => e = .returned (.bool (stateI log tx st)) ∧ Below w.heap.size w w' := by
 have H0 := Hid.mk' (i_decided B m log tx w hM hw)
 have H1 := Hid.mk' (i_has B m log tx true w hM hw)
 have H2 := Hid.mk' (i_has B m log tx false w hM hw)
 have HR : Hid (stateI log tx st = if st = 1 then !decided log tx else if st = 2 then has log (tx, true) else if st = 3 then has log (tx, false) else false) := rfl
 clear hM hw
 generalize decided log tx = r0 at *
 generalize has log (tx, true) = r1 at *
 generalize has log (tx, false) = r2 at *
 by_cases h1 : st = 1
 · subst h1
   cases r0
   all_goals
    go_enter Tryz.func135, Tryz.ntmps135
    go_wp2_with fail
    refine H0.out.mono ?_
    rintro e w1 ⟨rfl, hb1⟩
    go_wp2_with fail
    go_ret
    exact ⟨ret_bool (by rw [HR.out]; simp), hb1⟩
 have k1 : (st == 1) = false := beq_eq_false_iff_ne.2 h1
 by_cases h2 : st = 2
 · subst h2
   go_enter Tryz.func135, Tryz.ntmps135
   go_wp2_with fail
   refine H1.out.mono ?_
   rintro e w1 ⟨rfl, hb1⟩
   go_wp2_with fail
   go_ret
   exact ⟨ret_bool (by rw [HR.out]; simp), hb1⟩
 have k2 : (st == 2) = false := beq_eq_false_iff_ne.2 h2
 by_cases h3 : st = 3
 · subst h3
   go_enter Tryz.func135, Tryz.ntmps135
   go_wp2_with fail
   refine H2.out.mono ?_
   rintro e w1 ⟨rfl, hb1⟩
   go_wp2_with fail
   go_ret
   exact ⟨ret_bool (by rw [HR.out]; simp), hb1⟩
 have k3 : (st == 3) = false := beq_eq_false_iff_ne.2 h3
 go_enter Tryz.func135, Tryz.ntmps135
 go_wp2_with fail
 go_ret
 exact ⟨ret_bool (by rw [HR.out, if_neg h1, if_neg h2, if_neg h3]), Below.refl _ _⟩
end cos
end Go.Proofs.YtijplooogplccaaGreat
