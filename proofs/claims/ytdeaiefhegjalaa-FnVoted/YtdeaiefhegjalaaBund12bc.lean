/- The program's one who decides: whether it is right, and its answers. Arguments: what came in is read as a value of its type. No function of the program is named here. One who decides that came in. Marks on rows of structs. No function of the program is named here. -/
import Derived.Test.YtdeaiefhegjalaaBund12bb
import Derived.Test.YtdeaiefhegjalaaBund12at
import Derived.ChangeArms
import Derived.Deep.Slices
import Derived.WideShapes
import Derived.Deep.SlicePairs
import Derived.Test.YtdeaiefhegjalaaBund12ah
namespace Go.Proofs.Ytdeaiefhegjalaa.cos
open Go Go.RowKit Go.Proofs.Ytdeaiefhegjalaa.base Go.Proofs.Ytdeaiefhegjalaa.pairs Go.Proofs.Ytdeaiefhegjalaa.ords Go.Proofs.Ytdeaiefhegjalaa.lay Go.Proofs.Ytdeaiefhegjalaa.wds
set_option linter.unusedVariables false
set_option linter.unusedSimpArgs false

theorem i_countOk (n : Int) (w : World) : Calls Try.prog 40 #[.int .i64 n] w fun e w' => e = .returned (.bool (decide (1 ≤ n ∧ n ≤ 8))) ∧ w' = w := by
  by_cases h1 : 1 ≤ n
  · by_cases h2 : n ≤ 8
    · rw [decide_eq_true ⟨h1, h2⟩]
      go_enter Try.func40, Try.ntmps40
      go_wp2
      go_ret
      exact ⟨by simp [h2], rfl⟩
    · rw [decide_eq_false (fun h => h2 h.2)]
      go_enter Try.func40, Try.ntmps40
      go_wp2
      go_ret
      exact ⟨by simp [h2], rfl⟩
  · rw [decide_eq_false (fun h => h1 h.1)]
    go_enter Try.func40, Try.ntmps40
    go_wp2
    go_ret
    exact ⟨rfl, rfl⟩
/-- what comes of the look at one who decides -/
def CkPost (w : World) (c : Co) (e : Ending) (w' : World) : Prop :=
  Below w.heap.size w w' ∧ ((coordOk c = false ∧ ∃ v, e = .returned (.tuple #[v, .bool false])) ∨ (coordOk c = true ∧ ∃ B m, e = .returned (.tuple #[.map (some B), .bool true]) ∧ Made w' B m c.2.2.2.2.1))
theorem ckPost_no {w w' : World} {c : Co} {v : Value} (hb : Below w.heap.size w w') (h : coordOk c = false) : CkPost w c (.returned (.tuple #[v, .bool false])) w' := ⟨hb, .inl ⟨h, v, rfl⟩⟩
theorem ckPost_yes {w w' : World} {c : Co} {B m : Nat} (hb : Below w.heap.size w w') (h : coordOk c = true) (hM : Made w' B m c.2.2.2.2.1) : CkPost w c (.returned (.tuple #[.map (some B), .bool true])) w' := ⟨hb, .inr ⟨h, B, m, rfl, hM⟩⟩
set_option maxRecDepth 100000 in
set_option maxHeartbeats 4000000 in
theorem i_checked (X : Nat) (T : TypeId) (pre post : List Value) (n life next sure : Int) (ja : Option Addr) (jn jc : Nat) (la : Option Addr) (ln lc : Nat) (jobs : List Jb) (log : List Ch) (w : World) (hbx : BoxIn X T pre (coVals n life next sure ja jn jc la ln lc) post w) (hj : SlG jobR w ja jn jobs) (hl : SlG chR w la ln log)
    (hfj : ∀ j ∈ jobs, j.2.1.length ≤ 1099511627776 ∧ (∀ p ∈ j.2.1, p.2.1.size ≤ 1099511627776)) :
    Calls Try.prog 22 #[.pointer (some ⟨X, pre.length, none⟩)] w (CkPost w (n, life, next, jobs, log, sure)) := by
  have hll := hl.1
  have hlm := hl.2.1
  unfold maxLen at hlm
  have HR : Hid (coordOk (n, life, next, jobs, log, sure) = (decide (1 ≤ n ∧ n ≤ 8) && decide (1 ≤ life ∧ life ≤ 900) && decide (0 ≤ next ∧ next ≤ 999) && decide (ln ≤ 1000) && decide (0 ≤ sure ∧ sure ≤ (ln : Int)) && logOk (life * 1000 + next - 1) log && jobsOk n life next log none jobs)) := by
    show _ = _
    rw [← hll]; rfl
  have x0 := hbx.cell 0 _ rfl
  rw [Nat.add_zero] at x0
  have x1 := hbx.cell 1 _ rfl
  have x2 := hbx.cell 2 _ rfl
  have x4 := hbx.cell 4 _ rfl
  have x5 := hbx.cell 5 _ rfl
  have o0 := last.On.cell (B := w.heap.size) x0 (World.block_lt_of_cell? _ _ x0)
  have o1 := last.On.cell (B := w.heap.size) x1 (World.block_lt_of_cell? _ _ x1)
  have o2 := last.On.cell (B := w.heap.size) x2 (World.block_lt_of_cell? _ _ x2)
  have o4 := last.On.cell (B := w.heap.size) x4 (World.block_lt_of_cell? _ _ x4)
  have o5 := last.On.cell (B := w.heap.size) x5 (World.block_lt_of_cell? _ _ x5)
  have hinh := last.On.inh w.heap.size w
  have hco : ∀ x : last.On w.heap.size w, Calls Try.prog 40 #[.int .i64 n] x.w fun e w' => e = .returned (.bool (decide (1 ≤ n ∧ n ≤ 8))) ∧ ∃ y : last.On w.heap.size w, w' = y.w := fun x => last.Calls.on x (Nat.le_refl _) ((i_countOk n x.w).mono fun e w' ⟨he, hw⟩ => ⟨he, by rw [hw]; exact Below.refl _ _⟩)
  clear x0 x1 x2 x4 x5
  cases hd0 : decide (1 ≤ n ∧ n ≤ 8)
  · have HF : Hid (coordOk (n, life, next, jobs, log, sure) = false) := by show _ = _; rw [HR.out, hd0]; rfl
    rw [hd0] at hco
    clear HR hd0 hbx hj hl hfj
    go_enter Try.func22, Try.ntmps22
    go_wp2_with fail
    refine last.wp_region_on w.heap.size (by kernel_rfl) (by kernel_rfl) ?_
    repeat (go_big_quiet_step ((first | (go_at_call 40; with_reducible exact hco _))))
    refine wpQuiet_nil ?_
    intro wq hwq
    obtain ⟨xq, hwq⟩ := hwq
    subst hwq
    have hbq : Below w.heap.size w xq.w := xq.2
    generalize xq.w = w4 at *
    clear o0 o1 o2 o4 o5 hinh hco
    go_wp2_with fail
    go_returns
    exact ckPost_no hbq HF.out
  rw [hd0] at hco
  cases he0 : decide (life < 1)
  rotate_left
  · have HF : Hid (coordOk (n, life, next, jobs, log, sure) = false) := by
      show _ = _
      have hq := of_decide_eq_true he0
      rw [HR.out, decide_eq_false (show ¬ (1 ≤ life ∧ life ≤ 900) by omega)]; simp
    clear HR hbx hj hl hfj
    go_enter Try.func22, Try.ntmps22
    go_wp2_with fail
    refine last.wp_region_on w.heap.size (by kernel_rfl) (by kernel_rfl) ?_
    repeat (go_big_quiet_step ((first | (go_at_call 40; with_reducible exact hco _))))
    refine wpQuiet_nil ?_
    intro wq hwq
    obtain ⟨xq, hwq⟩ := hwq
    subst hwq
    have hbq : Below w.heap.size w xq.w := xq.2
    generalize xq.w = w4 at *
    clear o0 o1 o2 o4 o5 hinh hco
    go_wp2_with fail
    go_returns
    exact ckPost_no hbq HF.out
  cases he1 : decide (900 < life)
  rotate_left
  · have HF : Hid (coordOk (n, life, next, jobs, log, sure) = false) := by
      show _ = _
      have hq := of_decide_eq_true he1
      rw [HR.out, decide_eq_false (show ¬ (1 ≤ life ∧ life ≤ 900) by omega)]; simp
    clear HR hbx hj hl hfj
    go_enter Try.func22, Try.ntmps22
    go_wp2_with fail
    refine last.wp_region_on w.heap.size (by kernel_rfl) (by kernel_rfl) ?_
    repeat (go_big_quiet_step ((first | (go_at_call 40; with_reducible exact hco _))))
    refine wpQuiet_nil ?_
    intro wq hwq
    obtain ⟨xq, hwq⟩ := hwq
    subst hwq
    have hbq : Below w.heap.size w xq.w := xq.2
    generalize xq.w = w4 at *
    clear o0 o1 o2 o4 o5 hinh hco
    go_wp2_with fail
    go_returns
    exact ckPost_no hbq HF.out
  cases he2 : decide (next < 0)
  rotate_left
  · have HF : Hid (coordOk (n, life, next, jobs, log, sure) = false) := by
      show _ = _
      have hq := of_decide_eq_true he2
      rw [HR.out, decide_eq_false (show ¬ (0 ≤ next ∧ next ≤ 999) by omega)]; simp
    clear HR hbx hj hl hfj
    go_enter Try.func22, Try.ntmps22
    go_wp2_with fail
    refine last.wp_region_on w.heap.size (by kernel_rfl) (by kernel_rfl) ?_
    repeat (go_big_quiet_step ((first | (go_at_call 40; with_reducible exact hco _))))
    refine wpQuiet_nil ?_
    intro wq hwq
    obtain ⟨xq, hwq⟩ := hwq
    subst hwq
    have hbq : Below w.heap.size w xq.w := xq.2
    generalize xq.w = w4 at *
    clear o0 o1 o2 o4 o5 hinh hco
    go_wp2_with fail
    go_returns
    exact ckPost_no hbq HF.out
  cases he3 : decide (999 < next)
  rotate_left
  · have HF : Hid (coordOk (n, life, next, jobs, log, sure) = false) := by
      show _ = _
      have hq := of_decide_eq_true he3
      rw [HR.out, decide_eq_false (show ¬ (0 ≤ next ∧ next ≤ 999) by omega)]; simp
    clear HR hbx hj hl hfj
    go_enter Try.func22, Try.ntmps22
    go_wp2_with fail
    refine last.wp_region_on w.heap.size (by kernel_rfl) (by kernel_rfl) ?_
    repeat (go_big_quiet_step ((first | (go_at_call 40; with_reducible exact hco _))))
    refine wpQuiet_nil ?_
    intro wq hwq
    obtain ⟨xq, hwq⟩ := hwq
    subst hwq
    have hbq : Below w.heap.size w xq.w := xq.2
    generalize xq.w = w4 at *
    clear o0 o1 o2 o4 o5 hinh hco
    go_wp2_with fail
    go_returns
    exact ckPost_no hbq HF.out
  cases he4 : decide (sure < 0)
  rotate_left
  · have HF : Hid (coordOk (n, life, next, jobs, log, sure) = false) := by
      show _ = _
      have hq := of_decide_eq_true he4
      rw [HR.out, decide_eq_false (show ¬ (0 ≤ sure ∧ sure ≤ (ln : Int)) by omega)]; simp
    clear HR hbx hj hl hfj
    go_enter Try.func22, Try.ntmps22
    go_wp2_with fail
    refine last.wp_region_on w.heap.size (by kernel_rfl) (by kernel_rfl) ?_
    repeat (go_big_quiet_step ((first | (go_at_call 40; with_reducible exact hco _))))
    refine wpQuiet_nil ?_
    intro wq hwq
    obtain ⟨xq, hwq⟩ := hwq
    subst hwq
    have hbq : Below w.heap.size w xq.w := xq.2
    generalize xq.w = w4 at *
    clear o0 o1 o2 o4 o5 hinh hco
    go_wp2_with fail
    go_returns
    exact ckPost_no hbq HF.out
  cases he5 : decide ((ln : Int) < sure)
  rotate_left
  · have HF : Hid (coordOk (n, life, next, jobs, log, sure) = false) := by
      show _ = _
      have hq := of_decide_eq_true he5
      rw [HR.out, decide_eq_false (show ¬ (0 ≤ sure ∧ sure ≤ (ln : Int)) by omega)]; simp
    clear HR hbx hj hl hfj
    go_enter Try.func22, Try.ntmps22
    go_wp2_with fail
    refine last.wp_region_on w.heap.size (by kernel_rfl) (by kernel_rfl) ?_
    repeat (go_big_quiet_step ((first | (go_at_call 40; with_reducible exact hco _))))
    refine wpQuiet_nil ?_
    intro wq hwq
    obtain ⟨xq, hwq⟩ := hwq
    subst hwq
    have hbq : Below w.heap.size w xq.w := xq.2
    generalize xq.w = w4 at *
    clear o0 o1 o2 o4 o5 hinh hco
    go_wp2_with fail
    go_returns
    exact ckPost_no hbq HF.out
  have hr0 := of_decide_eq_true hd0
  have hlf : 1 ≤ life ∧ life ≤ 900 := ⟨by have := of_decide_eq_false he0; omega, by have := of_decide_eq_false he1; omega⟩
  have hnx : 0 ≤ next ∧ next ≤ 999 := ⟨by have := of_decide_eq_false he2; omega, by have := of_decide_eq_false he3; omega⟩
  have hsu : 0 ≤ sure ∧ sure ≤ (ln : Int) := ⟨by have := of_decide_eq_false he4; omega, by have := of_decide_eq_false he5; omega⟩
  rw [hd0, decide_eq_true hlf, decide_eq_true hnx, decide_eq_true hsu] at HR
  have HCH := Hid.mk' (fun wx (hx : Below w.heap.size w wx) => i_choicesOf X T pre post n life next sure ja jn jc la ln lc log wx (hbx.below hx) (hl.below hx) hlf hnx)
  have HJB := Hid.mk' (fun B m wx (hx : Below w.heap.size w wx) (hM : Made wx B m log) (hn : (log.map fun c => c.1).Nodup) => i_jobsOk X T pre post n life next sure ja jn jc la ln lc jobs log B m wx (hbx.below hx) (hj.below hx) hM hn hr0 hlf hnx hfj)
  clear hbx hj hl hfj hr0 hlf hnx hsu
  go_enter Try.func22, Try.ntmps22
  go_wp2_with fail
  refine last.wp_region_on w.heap.size (by kernel_rfl) (by kernel_rfl) ?_
  repeat (go_big_quiet_step ((first | (go_at_call 40; with_reducible exact hco _))))
  refine wpQuiet_nil ?_
  intro wq hwq
  obtain ⟨xq, hwq⟩ := hwq
  subst hwq
  have hbq : Below w.heap.size w xq.w := xq.2
  generalize xq.w = w4 at *
  clear o0 o1 o2 o4 o5 hinh hco hd0 he0 he1 he2 he3 he4 he5
  go_wp2_with fail
  refine (HCH.out _ hbq).mono ?_
  rintro e w5 ⟨hb5, ⟨hno, rfl⟩ | ⟨hyes, B, m, rfl, hM⟩⟩
  · have hB5 := hbq.trans (hb5.mono hbq.size)
    have HF : Hid (coordOk (n, life, next, jobs, log, sure) = false) := by
      show _ = _
      rw [HR.out]
      revert hno
      generalize decide (ln ≤ 1000) = b1
      generalize logOk (life * 1000 + next - 1) log = b2
      generalize jobsOk n life next log none jobs = b3
      intro hno
      cases b1 <;> cases b2 <;> cases b3 <;> first | rfl | cases hno
    clear HR hno HCH HJB
    go_wp2_with fail
    go_returns
    exact ckPost_no hB5 HF.out
  · have hB5 := hbq.trans (hb5.mono hbq.size)
    have hnd : (log.map fun c => c.1).Nodup := logOk_nodup (by rw [Bool.and_eq_true] at hyes; exact hyes.2)
    have HJ5 := Hid.mk' (HJB.out B m w5 hB5 hM hnd)
    have HRJ : Hid (coordOk (n, life, next, jobs, log, sure) = jobsOk n life next log none jobs) := by
      show _ = _
      rw [HR.out]
      revert hyes
      generalize decide (ln ≤ 1000) = b1
      generalize logOk (life * 1000 + next - 1) log = b2
      generalize jobsOk n life next log none jobs = b3
      intro hno
      cases b1 <;> cases b2 <;> cases b3 <;> first | rfl | cases hno
    have HM := Hid.mk' hM
    clear HR hyes HCH HJB hM hnd
    cases hjo : jobsOk n life next log none jobs
    · rw [hjo] at HJ5 HRJ
      clear hjo
      go_wp2_with fail
      refine HJ5.out.mono ?_
      rintro e w6 ⟨rfl, hb6⟩
      go_wp2_with fail
      go_returns
      exact ckPost_no (hB5.trans (hb6.mono hB5.size)) HRJ.out
    · rw [hjo] at HJ5 HRJ
      clear hjo
      go_wp2_with fail
      refine HJ5.out.mono ?_
      rintro e w6 ⟨rfl, hb6⟩
      go_wp2_with fail
      go_returns
      exact ckPost_yes (hB5.trans (hb6.mono hB5.size)) HRJ.out (HM.out.below hb6)
theorem boxIn_co (w : World) (n life next sure : Int) (ja : Option Addr) (jn jc : Nat) (la : Option Addr) (ln lc : Nat) : BoxIn w.heap.size 27 [] (coVals n life next sure ja jn jc la ln lc) [] (w.alloc (coO n life next sure ja jn jc la ln lc)) := boxIn_new w _ _
theorem impl_coordOk (ja : Option Addr) (jn jc : Nat) (la : Option Addr) (ln lc : Nat) (c : Co) (w : World) (h : SeeCo w ja jn jc la ln lc c) (hf : FitsCo c) :
    Calls Try.prog 8 #[coV c.1 c.2.1 c.2.2.1 c.2.2.2.2.2 ja jn jc la ln lc] w fun e w' => e = .returned (.bool (coordOk c)) ∧ Below w.heap.size w w' := by
  obtain ⟨n, life, next, jobs, log, sure⟩ := c
  simp only [] at *
  have hb := below_new w (coO n life next sure ja jn jc la ln lc)
  have hS := h.below hb
  have HC := Hid.mk' (i_checked _ _ [] [] n life next sure ja jn jc la ln lc jobs log _ (boxIn_co w n life next sure ja jn jc la ln lc) hS.jobs hS.log hf.2.2)
  clear h hS hf
  go_enter Try.func8, Try.ntmps8
  go_wp2_with fail
  refine HC.out.mono ?_
  rintro e w1 ⟨hb1, ⟨hno, v, rfl⟩ | ⟨hyes, B, m, rfl, hM⟩⟩
  · go_wp2_with fail
    go_ret
    exact ⟨ret_bool hno.symm, hb.trans (hb1.mono hb.size)⟩
  · go_wp2_with fail
    go_ret
    exact ⟨ret_bool hyes.symm, hb.trans (hb1.mono hb.size)⟩
theorem logOk_thousand {hi : Int} {log : List Ch} (h : logOk hi log = true) : ∀ c ∈ log, (1000 : Int) ≤ c.1 := by
  unfold logOk at h
  rw [Bool.and_eq_true, List.all_eq_true] at h
  exact fun c hc => (of_decide_eq_true (h.1 c hc)).1
theorem coordOk_log {c : Co} (h : coordOk c = true) : logOk (c.2.1 * 1000 + c.2.2.1 - 1) c.2.2.2.2.1 = true := by
  unfold coordOk at h
  simp only [Bool.and_eq_true] at h
  exact h.1.2
end Go.Proofs.Ytdeaiefhegjalaa.cos

namespace Go.Proofs.Ytdeaiefhegjalaa.lay
open Go Go.RowKit Go.Proofs.Ytdeaiefhegjalaa.base
set_option linter.unusedVariables false
set_option linter.unusedSimpArgs false

/-- the cells of an argument of type t are read as R says -/
def Reads {α : Type} (P : Program) (t : TypeId) (R : Rd α) : Prop :=
  ∀ (H : Type) (enc : TypeId × Value → H) (W : World) (fuel : Nat) (vs : List Value) (x : DataW H × List MemPlace), vs.length = R.size → DataW.trod enc P W 0 (fun _ => true) true fuel t vs = some x → ∃ y, R.see W vs y
section
variable {α : Type} {P : Program} {t e : TypeId} {R : Rd α}
theorem reads_int (ht : P.underlying t = some (.int .i64)) : Reads P t int := fun H enc W fuel vs x hl h => by
  obtain ⟨n, rfl, _, hw⟩ := DataW.trod_int ht h
  exact ⟨n, rfl, hw⟩
theorem reads_bool (ht : P.underlying t = some .bool) : Reads P t bool := fun H enc W fuel vs x hl h => by
  obtain ⟨b, rfl, _⟩ := DataW.trod_bool ht h
  exact ⟨b, rfl⟩
theorem reads_str (ht : P.underlying t = some .string) : Reads P t str := fun H enc W fuel vs x hl h => by
  obtain ⟨s, rfl, _, hs⟩ := DataW.trod_string ht h
  exact ⟨s, rfl, hs⟩
theorem reads_slice [Inhabited α] (ty : TypeId) (ht : P.underlying t = some (.slice e)) (hc : P.cellsOf e = R.size) (h0 : 0 < R.size) (hR : Reads P e R) : Reads P t (lay.slice ty R) := fun H enc W fuel vs x hl h => by
  rcases Deep.open_slice ht h with ⟨rfl, _⟩ | ⟨ad, len, cap, m, n, D, Pl, rfl, hb, hlc, hm, hmm, _, hx⟩
  · exact ⟨[], none, 0, 0, rfl, Nat.le_refl _, rfl, Nat.zero_le _, fun x hx => absurd hx List.not_mem_nil, fun h => absurd h (by omega)⟩
  · simp at hmm
    have each : ∀ i, i < len → ∃ y : α, ∃ us, R.see W us y ∧ ∀ j u, us[j]? = some u → W.cell? (ad.add (i * R.size + j)) = some u := by
      intro i hi
      obtain ⟨cs', h1, h2⟩ := hx i (by omega)
      rw [hc] at h1
      obtain ⟨_, hlen, hcell⟩ := World.cells?_some h1
      obtain ⟨y, hy⟩ := hR H enc W n cs' _ hlen h2
      refine ⟨y, cs', hy, fun j u hj => ?_⟩
      have hjl := (List.getElem?_eq_some_iff.1 hj).1
      have := hcell j (by omega)
      rw [Deep.add_add] at this
      rw [this]; exact hj
    obtain ⟨q, hq⟩ := Deep.choose_lt each
    refine ⟨(List.range len).map q, some ad, len, cap, rfl, hlc, by simp, by omega, fun x hx => ?_, fun hl0 => ?_⟩
    · obtain ⟨i, hi, rfl⟩ := List.mem_map.1 hx
      obtain ⟨us, h1, _⟩ := hq i (List.mem_range.1 hi)
      exact ⟨us, h1⟩
    · obtain ⟨b, off, spot⟩ := ad
      obtain ⟨us0, hs0, hc0⟩ := hq 0 hl0
      have hl0 := R.seeLen hs0
      obtain ⟨u0, hu0⟩ : ∃ u, us0[0]? = some u := ⟨us0[0]'(by omega), List.getElem?_eq_getElem (by omega)⟩
      have hspot : spot = none := by simpa [Addr.add] using World.cell?_spot (hc0 0 u0 hu0)
      subst hspot
      refine ⟨b, off, rfl, fun i hi => ?_⟩
      have hi' : i < len := by simpa using hi
      obtain ⟨us, h1, h2⟩ := hq i hi'
      simp only [List.getElem_map, List.getElem_range]
      refine ⟨us, h1, fun j u hj => ?_⟩
      have := h2 j u hj
      rw [Addr.add_lit, ← Nat.add_assoc] at this
      exact this
theorem arg_struct {H : Type} {enc : TypeId × Value → H} {W : World} {r : Reach} {base fuel : Nat} {v : Value} {fs : Array Field} {x : DataW H × List MemPlace} (ht : P.underlying t = some (.struct fs)) (hc : P.cellsOf t = R.size) (hR : Reads P t R) (hok : Value.okWide P W r base t v) (h : DataW.trod enc P W 0 (fun _ => true) true fuel t v.cells.toList = some x) : ∃ cs y, v = .agg cs.toArray ∧ R.see W cs y := by
  obtain ⟨cs, rfl, hsz⟩ := WideShapes.okWide_struct ht hok
  obtain ⟨l⟩ := cs
  rw [hc] at hsz
  obtain ⟨y, hy⟩ := hR H enc W fuel l x hsz h
  exact ⟨l, y, rfl, hy⟩
end
end Go.Proofs.Ytdeaiefhegjalaa.lay

namespace Go.Proofs.Ytdeaiefhegjalaa.cos
open Go Go.RowKit Go.Proofs.Ytdeaiefhegjalaa.base Go.Proofs.Ytdeaiefhegjalaa.pairs Go.Proofs.Ytdeaiefhegjalaa.ords Go.Proofs.Ytdeaiefhegjalaa.lay Go.Proofs.Ytdeaiefhegjalaa.wds
set_option linter.unusedVariables false
set_option linter.unusedSimpArgs false

end Go.Proofs.Ytdeaiefhegjalaa.cos

namespace Go.Proofs.Ytdeaiefhegjalaa.lay
open Go Go.RowKit Go.Proofs.Ytdeaiefhegjalaa.base
set_option linter.unusedVariables false
set_option linter.unusedSimpArgs false

section
variable {α : Type}
def cntTo (cnt : α → Nat) (l : List α) (i : Nat) : Nat := ((l.take i).map cnt).sum
def cntAll (cnt : α → Nat) (l : List α) : Nat := (l.map cnt).sum
theorem cntTo_zero (cnt : α → Nat) (l : List α) : cntTo cnt l 0 = 0 := rfl
theorem cntTo_succ (cnt : α → Nat) (l : List α) (i : Nat) (h : i < l.length) : cntTo cnt l (i + 1) = cntTo cnt l i + cnt l[i] := by
  unfold cntTo
  rw [List.take_succ_eq_append_getElem h, List.map_append, List.sum_append]; simp
theorem cntTo_all (cnt : α → Nat) (l : List α) : cntTo cnt l l.length = cntAll cnt l := by unfold cntTo cntAll; rw [List.take_length]
theorem cntTo_le (cnt : α → Nat) (l : List α) (i : Nat) : cntTo cnt l i ≤ cntAll cnt l := by
  unfold cntTo cntAll
  conv => rhs; rw [← List.take_append_drop i l]
  rw [List.map_append, List.sum_append]; omega
/-- marks on a row: each element is marked from where the one ahead ended -/
def markF (m : Nat → α → α) (cnt : α → Nat) (k0 : Nat) (l : List α) (i : Nat) (x : α) : α := m (k0 + cntTo cnt l i) x
def markRow (m : Nat → α → α) (cnt : α → Nat) (k0 : Nat) (l : List α) : List α := l.mapIdx (markF m cnt k0 l)
theorem markRow_length (m : Nat → α → α) (cnt : α → Nat) (k0 : Nat) (l : List α) : (markRow m cnt k0 l).length = l.length := by simp [markRow]
theorem markRow_at (m : Nat → α → α) (cnt : α → Nat) (k0 : Nat) (l : List α) (i : Nat) (h : i < l.length) : (markRow m cnt k0 l)[i]'(by rw [markRow_length]; exact h) = m (k0 + cntTo cnt l i) l[i] := by simp [markRow, markF]
theorem set_at {l : List α} {i : Nat} {x : α} (h : i < l.length) : (l.set i x)[i]'(by simpa using h) = x := by simp
end
/-- an element of a row of the call's own: its cells, what it owns, and the way back -/
theorem OwnG.open {α : Type} {ty : TypeId} {R : Rd α} {w : World} {g n cap : Nat} {l : List α} {q : Parts} (h : OwnG ty R w (.slice (some ⟨g, 0, none⟩) n cap) l q) (i : Nat) (hi : i < l.length) :
    ∃ us F, R.own w us l[i] F ∧ (∀ j u, us[j]? = some u → w.cell? ⟨g, i * R.size + j, none⟩ = some u) ∧ (∀ k ∈ F, k ∈ blocksOf q) ∧ ∀ (w' : World) (x' : α) (G : List Nat), Frame G w w' → (∀ k ∈ G, k ∈ F) → R.own w' us x' F → OwnG ty R w' (.slice (some ⟨g, 0, none⟩) n cap) (l.set i x') q := by
  have hl := h.len
  have hn := h.nlen
  subst hn
  refine ⟨_, _, h.each i hi, fun j u hj => ?_, fun k hk => List.mem_flatMap.2 ⟨_, List.getElem_mem _, hk⟩, fun w' x' G hf hG hx => h.inner i hi x' hf hG hx⟩
  have hp := h.parts
  have hjl := (List.getElem?_eq_some_iff.1 hj).1
  rw [hp _ (List.getElem_mem _)] at hjl
  have hin : i * R.size + j < l.length * R.size := by
    have := Nat.mul_le_mul_right R.size (show i + 1 ≤ l.length from hi)
    rw [Nat.add_mul] at this; omega
  rw [h.row.cellAt (i * R.size + j) hin, cellsOf_get hp i (by omega) j hjl]
  exact hj
end Go.Proofs.Ytdeaiefhegjalaa.lay
