/- Draws of any orders. Plain mathematics of statements: orders and pairs as texts, the words of a text, and that they come back. The specification's statements: what is plain, the words of a text. The specification's statements: a word's order. The specification's statements: orders of a text. -/
import Derived.Test.YtefjbpkomphjdaaShac
import Derived.Test.YtefjbpkomphjdaaShab
import Derived.Lib.Join
import Derived.Test.YtefjbpkomphjdaaShaa
import Derived.Lib.Strings
namespace Go.Proofs.Ytefjbpkomphjdaa.ords
open Go Go.RowKit Go.Proofs.Ytefjbpkomphjdaa.base Go.Proofs.Ytefjbpkomphjdaa.pairs Go.Proofs.Ytefjbpkomphjdaa.draw
set_option linter.unusedVariables false
set_option linter.unusedSimpArgs false

def tinyO (o : Od) : Prop := 0 ≤ o.1 ∧ o.1 ≤ 5 ∧ o.2.1.size ≤ 13 ∧ o.2.2.size ≤ 21
theorem tinyO_ok {o : Od} (h : odOk o = true) : tinyO o := by
  obtain ⟨h1, _, h3, h4⟩ := (odOk_iff o).1 h
  have := keyOk_size h3
  exact ⟨by omega, by omega, by omega, by omega⟩
theorem tinyO_small {o : Od} (h : tinyO o) : smallO o := by
  obtain ⟨h1, h2, h3, h4⟩ := h
  exact ⟨WalkArith.wf_i64 (by omega), by unfold maxLen; omega, by unfold maxLen; omega⟩
theorem OwnO.none {w : World} {base g n cap : Nat} {l : List Od} (h : OwnO w base g n cap l) : OwnO w base g 0 cap [] := by
  refine ⟨rfl, fun p hp => absurd hp List.not_mem_nil, rfl, ?_⟩
  rcases h.2.2.2 with ⟨h', _⟩ | ⟨g', cap', cur, h', h0, hg, h1, h2, h3, h4⟩
  · simp at h'
  · simp only [Value.slice.injEq, Option.some.injEq, Addr.mk.injEq, and_true, true_and] at h'
    obtain ⟨rfl, rfl⟩ := h'
    exact .inr ⟨g, cap, cur, rfl, h0, hg, Nat.zero_le _, h2, h3, by simp [ordVals]⟩
def GotAnyO (w0 w : World) (gc : Nat) (a : Option Addr) (len cap : Nat) (code : List UInt8) (e : Ending) (w' : World) : Prop :=
  ∃ (g n cp : Nat) (l : List Od), n ≤ 5 ∧ (∀ p ∈ l, tinyO p) ∧ e = .returned (.slice (some ⟨g, 0, none⟩) n cp) ∧ OwnO w' w.heap.size g n cp l ∧ Cur w0 w' gc a len cap code ∧ w.grownBy w' (some gc)
theorem tiny_set {l : List Od} {i : Nat} {p : Od} (h : ∀ q ∈ l, tinyO q) (hp : tinyO p) : ∀ q ∈ l.set i p, tinyO q := by
  intro q hq
  rcases List.mem_or_eq_of_mem_set hq with h1 | h1
  · exact h q h1
  · subst h1; exact hp
set_option maxRecDepth 100000 in
set_option maxHeartbeats 2000000 in
theorem d_anyO (w0 w : World) (gc : Nat) (a : Option Addr) (len cap : Nat) (code : List UInt8) (h : Cur w0 w gc a len cap code) :
    Calls Try.prog 30 #[.pointer (some ⟨gc, 0, none⟩)] w fun e w' => GotAnyO w0 w gc a len cap code e w' := by
  obtain ⟨i0, hif, hz0, hz1, hz2⟩ := info_parts infoO
  obtain ⟨j0, hjf, hy0, hy1, hy2⟩ := info_parts info8
  have hcl := h.lt
  go_enter Try.func30, Try.ntmps30
  go_wp2_with fail
  refine (d_ops w0 _ gc a len cap code h).mono ?_
  rintro e w1 ⟨g, n, cp, l, hn, hok, rfl, hO1, hC1, hG1⟩
  obtain ⟨⟨hall, _⟩, hl1, hl8⟩ := (opsOk_iff l).1 hok
  have ht : Hid (∀ p ∈ l, tinyO p) := fun p hp => tinyO_ok (hall p hp)
  have hgne : g ≠ gc := by have := hO1.lt; omega
  clear hok hall
  go_wp2_with fail
  refine (below_ w0 _ gc a len cap code _ hC1 (by omega) (by omega)).mono ?_
  rintro e w2 ⟨x, hx, rfl, hC2, hG2⟩
  have hO2 := hO1.grown hG2 (by simpa using hgne)
  have hG2' := grownBy_trans hG1 hG2
  clear hO1 hC1 hG1 hG2
  have hln := hO2.1
  have hn0 : 0 < n := by omega
  have hl0 : 0 < l.length := by omega
  have hki : (0 : Int) < (n : Int) := by omega
  have hgc0 := hC2.ge
  have hwb := h.bel.size
  by_cases x0 : x = 0
  · subst x0
    go_wp2_with (at_builtin; fail)
    refine (d_op1 w0 _ gc a len cap code hC2).mono ?_
    rintro e w4 ⟨o, hok, rfl, hC4, hG4⟩
    have hO4 := hO2.grown hG4 (by simpa using hgne)
    have hG4' := grownBy_trans hG2' hG4
    have hbw : w.heap.size ≤ w4.heap.size := hG4'.size
    have hc3 : n + 1 ≤ maxLen := by unfold maxLen; omega
    have hc4 : (n + 1) * 40 ≤ 140737488355328 := by omega
    have hto := tinyO_ok hok
    clear hO2 hC2 hG2' hG4 hok
    go_wp2_with (at_builtin; refine wpList_append_own _ rfl (.tmp 10) (.tmp 13) 24 rfl w.heap.size 53 i0 (.agg #[.int .i64 0, .string ⟨#[]⟩, .string ⟨#[]⟩]) 3 40 Try.underlying24 hif hz0 hz1 hz2 rfl (by decide) _ _ _ rfl (hO4.2.2.alloc _) ⟨w4.heap.size, 0, none⟩ 1 1 (ordVals [o]) rfl rfl (one_ord_cells _ _ _) (ordVals_oneCell _) hc3 hc4 (le_alloc _ _ hbw) ?_)
    intro v5 w5 hown hgrow hnn
    obtain ⟨g5, cp5, hv, hO5⟩ := ownO_app hO4.1 hO4.2.1 (tinyO_small hto) hnn hown
    subst hv
    have hg5 : (w4.alloc (.cells #[.int .i64 o.1, .string o.2.1, .string o.2.2] 53)).grownBy w5 (some g) := hgrow
    have hC5 : Cur w0 w5 gc a len cap code := (hC4.below ((Below.refl _ _).alloc (Nat.le_refl _) _)).grown hg5 (by simpa using hgne.symm) (fun k e => by cases e; have := hO4.lt; omega)
    have hG5 : w.grownBy w5 (some gc) := grown_own (grown_alloc hG4' _) hg5 hO4.lt.1
    have ht5 : Hid (∀ p ∈ l ++ [o], tinyO p) := by
      intro p hp
      rcases List.mem_append.1 hp with h1 | h1
      · exact ht.out p h1
      · simp at h1; subst h1; exact hto
    have HO5 := Hid.mk' hO5
    clear hown hgrow hnn hO4 hC4 hG4' hg5 hO5
    go_wp2_with (at_builtin; fail)
    go_ret
    exact ⟨g5, n + 1, cp5, _, by omega, ht5.out, rfl, HO5.out, hC5, hG5⟩
  by_cases x1 : x = 1
  · subst x1
    go_wp2_with (at_builtin; fail)
    refine (below_ w0 _ gc a len cap code _ hC2 (by omega) (by omega)).mono ?_
    rintro e w4 ⟨y, hy, rfl, hC4, hG4⟩
    have hO4 := hO2.grown hG4 (by simpa using hgne)
    have hG4' := grownBy_trans hG2' hG4
    have d1 := hO4.kind 0 hl0
    have f1 := hO4.frozen (0 * 3)
    have R := hO4.setKind 0 hl0 (y : Int) (WalkArith.wf_i64 (by omega))
    have ht0 := ht.out _ (List.getElem_mem hl0)
    have HT : Hid (∀ p ∈ l.set 0 ((y : Int), l[0].2), tinyO p) := tiny_set ht.out ⟨by show (0 : Int) ≤ (y : Int); omega, by show (y : Int) ≤ 5; omega, ht0.2.2⟩
    simp only [Nat.zero_mul] at d1 f1 R
    have HC5 : Hid (Cur w0 (w4.setCell ⟨g, 0, none⟩ (.int .i64 (y : Int))) gc a len cap code) := hC4.grown R.2 (by simpa using hgne.symm) (fun k e => by cases e; have := hO4.lt; omega)
    have HG5 := Hid.mk' (grown_own hG4' R.2 hO4.lt.1)
    have HR := Hid.mk' R.1
    clear R hO2 hC2 hG2' hG4 hO4 hC4 hG4' ht0
    go_wp2_with (at_builtin; fail)
    go_ret
    exact ⟨g, n, cp, _, by omega, HT.out, rfl, HR.out, HC5.out, HG5.out⟩
  by_cases x2 : x = 2
  · subst x2
    go_wp2_with (at_builtin; fail)
    refine (d_keyAny w0 _ gc a len cap code hC2).mono ?_
    rintro e w4 ⟨y, hy, rfl, hC4, hG4⟩
    have hO4 := hO2.grown hG4 (by simpa using hgne)
    have hG4' := grownBy_trans hG2' hG4
    have d1 := hO4.key 0 hl0
    have f1 := hO4.frozen (0 * 3 + 1)
    have R := hO4.setKey 0 hl0 y (by unfold maxLen; omega)
    have ht0 := ht.out _ (List.getElem_mem hl0)
    have HT : Hid (∀ p ∈ l.set 0 (l[0].1, y, l[0].2.2), tinyO p) := tiny_set ht.out ⟨ht0.1, ht0.2.1, hy, ht0.2.2.2⟩
    simp only [Nat.zero_mul, Nat.zero_add] at d1 f1 R
    have HC5 : Hid (Cur w0 (w4.setCell ⟨g, 1, none⟩ (.string y)) gc a len cap code) := hC4.grown R.2 (by simpa using hgne.symm) (fun k e => by cases e; have := hO4.lt; omega)
    have HG5 := Hid.mk' (grown_own hG4' R.2 hO4.lt.1)
    have HR := Hid.mk' R.1
    clear R hO2 hC2 hG2' hG4 hO4 hC4 hG4' ht0
    go_wp2_with (at_builtin; fail)
    go_ret
    exact ⟨g, n, cp, _, by omega, HT.out, rfl, HR.out, HC5.out, HG5.out⟩
  by_cases x3 : x = 3
  · subst x3
    go_wp2_with (at_make; fail)
    refine (below_ w0 _ gc a len cap code _ hC2 (by omega) (by omega)).mono ?_
    rintro e w3 ⟨y, hy, rfl, hC3, hG3⟩
    have hO3 := hO2.grown hG3 (by simpa using hgne)
    have hG3' := grownBy_trans hG2' hG3
    clear hO2 hC2 hG2' hG3
    obtain ⟨m, hm⟩ : ∃ m : Nat, 20 + (y : Int) = (m : Int) := ⟨20 + y, by omega⟩
    have hm21 : m ≤ 21 := by omega
    go_wp2_with (at_make; refine wpList_make_full _ rfl _ _ 22 rfl w3.heap.size 5 j0 (.int .u8 0) 1 Try.underlying22 hjf hy0 hy1 _ _ _ _ m rfl rfl (by omega) (by omega) ?b2 ?b3 ?b4 ?_)
    case b2 => rw [hy2]; omega
    case b3 => unfold maxLen; omega
    case b4 => exact Nat.le_refl _
    intro w4 hown hgrow
    have hOb : Own w4 w3.heap.size w3.heap.size m m (List.replicate m 0) := by
      refine ⟨by simp, ?_⟩
      have e : byteVals (List.replicate m 0) = (madeCells #[.int .u8 0] m).toList := by
        simp [byteVals, toList_madeCells_one]
      rw [e]; simpa using hown
    have hcv := conv_own hOb
    have hB4 : Below w3.heap.size w3 w4 := (Below.refl _ _).grown hgrow (Nat.le_refl _) (fun k e => by cases e)
    have hO4 := hO3.below hB4
    have hC4 := hC3.below hB4
    have hG4 := grown_below hG3' hB4
    have d1 := hO4.val 0 hl0
    have f1 := hO4.frozen (0 * 3 + 2)
    have hzs : (⟨(List.replicate m (0 : UInt8)).toArray⟩ : ByteArray).size ≤ 21 := by show (List.replicate m (0 : UInt8)).toArray.size ≤ 21; simp; exact hm21
    have R := hO4.setVal 0 hl0 ⟨(List.replicate m (0 : UInt8)).toArray⟩ (max13 hzs)
    have ht0 := ht.out _ (List.getElem_mem hl0)
    have HT : Hid (∀ p ∈ l.set 0 (l[0].1, l[0].2.1, (⟨(List.replicate m (0 : UInt8)).toArray⟩ : ByteArray)), tinyO p) := tiny_set ht.out ⟨ht0.1, ht0.2.1, ht0.2.2.1, hzs⟩
    simp only [Nat.zero_mul, Nat.zero_add] at d1 f1 R
    have HC5 : Hid (Cur w0 (w4.setCell ⟨g, 2, none⟩ (.string ⟨(List.replicate m (0 : UInt8)).toArray⟩)) gc a len cap code) := hC4.grown R.2 (by simpa using hgne.symm) (fun k e => by cases e; have := hO4.lt; have := hC4.ge; omega)
    have HG5 := Hid.mk' (grown_own hG4 R.2 hO4.lt.1)
    have HR := Hid.mk' R.1
    clear R hown hgrow hOb hB4 hO3 hC3 hG3' hO4 hC4 hG4 ht0
    go_wp2_with (at_builtin; fail)
    go_ret
    exact ⟨g, n, cp, _, by omega, HT.out, rfl, HR.out, HC5.out, HG5.out⟩
  have e0 : ((x : Int) == 0) = false := by simp; omega
  have e1 : ((x : Int) == 1) = false := by simp; omega
  have e2 : ((x : Int) == 2) = false := by simp; omega
  have e3 : ((x : Int) == 3) = false := by simp; omega
  by_cases x4 : x = 4
  · subst x4
    have hO5 := hO2.none
    have hcc := hO2.cases
    unfold maxLen at hcc
    clear x0 x1 x2 x3 e0 e1 e2 e3
    go_wp2_with (at_builtin; fail)
    go_ret
    exact ⟨g, 0, cp, [], by omega, fun p hp => absurd hp List.not_mem_nil, rfl, hO5, hC2, hG2'⟩
  · have e4 : ((x : Int) == 4) = false := by simp; omega
    go_wp2_with (at_builtin; fail)
    go_ret
    exact ⟨g, n, cp, l, by omega, ht.out, rfl, hO2, hC2, hG2'⟩
end Go.Proofs.Ytefjbpkomphjdaa.ords

namespace Go.Proofs.Ytefjbpkomphjdaa.txts
open Go Go.Proofs.Ytefjbpkomphjdaa.pairs Go.Proofs.Ytefjbpkomphjdaa.ords
set_option linter.unusedVariables false

def splitGo (by_ : UInt8) : List UInt8 → List UInt8 → List (List UInt8)
  | cur, [] => [cur]
  | cur, c :: l => if c = by_ then cur :: splitGo by_ [] l else splitGo by_ (cur ++ [c]) l
def plainS (s : ByteArray) : Bool := keyAll s.data.toList && decide (s.size ≤ 20)
def opGo : List UInt8 → List UInt8 → Option Od
  | _, [] => none
  | pre, c :: l => if c = 61 ∨ c = 63 then (if plainS ⟨l.toArray⟩ = true then some (if c = 61 then 1 else 3, ⟨pre.toArray⟩, ⟨l.toArray⟩) else none) else opGo (pre ++ [c]) l
def wordOp : List UInt8 → Option Od
  | [] => none
  | c :: l => if c = 45 then some (2, ⟨l.toArray⟩, ⟨#[]⟩) else opGo [] (c :: l)
def allOf {α β : Type} (f : α → Option β) : List α → Option (List β)
  | [] => some []
  | a :: l => match f a with | none => none | some b => match allOf f l with | none => none | some m => some (b :: m)
def onlyOk (l : List Od) : Option (List Od) := if opsOk l = true then some l else none
def parseOps (s : List UInt8) : Option (List Od) := (allOf wordOp (splitGo 32 [] s)).bind onlyOk
def odText (o : Od) : List UInt8 :=
  if o.1 = 1 then o.2.1.data.toList ++ 61 :: o.2.2.data.toList else if o.1 = 2 then 45 :: o.2.1.data.toList else o.2.1.data.toList ++ 63 :: o.2.2.data.toList
def opsText (l : List Od) : List UInt8 := if opsOk l = true ∧ (l.all fun o => plainS o.2.2) = true then Lib.join (l.map odText) [32] else []
def prText (p : Pr) : List UInt8 := p.1.data.toList ++ 61 :: p.2.data.toList
/-! ### what the signs of a word tell, one by one -/
abbrev init : Od := (0, ⟨#[]⟩, ⟨#[]⟩)
def step (t : Option Od) (c : UInt8) : Option Od :=
  match t with
  | none => none
  | some o =>
    if c = 45 ∧ o = init then some (2, ⟨#[]⟩, ⟨#[]⟩)
    else if c = 61 ∧ o.1 = 0 then some (1, o.2.1, ⟨#[]⟩)
    else if c = 63 ∧ o.1 = 0 then some (3, o.2.1, ⟨#[]⟩)
    else if keyCh c.toNat = true then
      if o.1 = 1 ∨ o.1 = 3 then (if o.2.2.size = 20 then none else some (o.1, o.2.1, ⟨(o.2.2.data.toList ++ [c]).toArray⟩))
      else (if o.2.1.size = 12 then none else some (o.1, ⟨(o.2.1.data.toList ++ [c]).toArray⟩, o.2.2))
    else none
def tell (w : List UInt8) : Option Od := w.foldl step (some init)
def go : List Od → Option Od → List UInt8 → Option (List Od)
  | acc, t, [] => (match t with | none => none | some o => some (acc ++ [o]))
  | acc, t, c :: l => if c = 32 then (match t with | none => none | some o => go (acc ++ [o]) (some init) l) else go acc (step t c) l

theorem go_nil (acc : List Od) (t : Option Od) : go acc t [] = match t with | none => none | some o => some (acc ++ [o]) := by cases t <;> rfl
theorem go_cons (acc : List Od) (t : Option Od) (c : UInt8) (l : List UInt8) : go acc t (c :: l) = if c = 32 then (match t with | none => none | some o => go (acc ++ [o]) (some init) l) else go acc (step t c) l := by cases t <;> rfl
theorem fold_none (l : List UInt8) : l.foldl step none = none := by
  induction l with
  | nil => rfl
  | cons c l ih => exact ih
def okW : Option Od → Option Od
  | none => none
  | some o => if odOk o = true then some o else none
theorem ba_size (l : List UInt8) : (⟨l.toArray⟩ : ByteArray).size = l.length := by simp [ByteArray.size]
theorem ba_eta (s : ByteArray) : (⟨s.data.toList.toArray⟩ : ByteArray) = s := by cases s; rfl
theorem size_len (s : ByteArray) : s.data.toList.length = s.size := by rw [Array.length_toList]; rfl
theorem keyOk_mk (l : List UInt8) : keyOk ⟨l.toArray⟩ = (keyAll l && decide (1 ≤ l.length ∧ l.length ≤ 12)) := by
  unfold keyOk; rw [ba_size]
theorem keyAll_app (a b : List UInt8) : keyAll (a ++ b) = (keyAll a && keyAll b) := by unfold keyAll; rw [List.all_append]
theorem keyAll_cons (c : UInt8) (l : List UInt8) : keyAll (c :: l) = (keyCh c.toNat && keyAll l) := rfl

theorem fold_key (l : List UInt8) (key : List UInt8) (h : key.length ≤ 12) :
    okW (l.foldl step (some (2, ⟨key.toArray⟩, ⟨#[]⟩))) = if keyAll l = true ∧ key.length + l.length ≤ 12 then okW (some (2, ⟨(key ++ l).toArray⟩, ⟨#[]⟩)) else none := by
  induction l generalizing key with
  | nil => rw [if_pos ⟨rfl, by simpa using h⟩, List.append_nil]; rfl
  | cons c l ih =>
    rw [List.foldl_cons, keyAll_cons]
    have hs : step (some (2, ⟨key.toArray⟩, ⟨#[]⟩)) c = if keyCh c.toNat = true then (if key.length = 12 then none else some (2, ⟨(key ++ [c]).toArray⟩, ⟨#[]⟩)) else none := by
      simp only [step]
      rw [if_neg (by rintro ⟨_, e⟩; simp [init] at e), if_neg (by rintro ⟨_, e⟩; simp at e), if_neg (by rintro ⟨_, e⟩; simp at e), if_neg (by decide : ¬ ((2 : Int) = 1 ∨ (2 : Int) = 3)), ba_size]
    rw [hs]
    cases hk : keyCh c.toNat
    · simp [fold_none, okW]
    · simp only [if_true, Bool.true_and, List.length_cons]
      by_cases h12 : key.length = 12
      · rw [if_pos h12, fold_none, if_neg (by omega)]; rfl
      · rw [if_neg h12, ih (key ++ [c]) (by simp; omega)]
        simp only [List.length_append, List.length_cons, List.length_nil, List.append_assoc, List.singleton_append]
        by_cases hx : keyAll l = true ∧ key.length + (0 + 1) + l.length ≤ 12
        · rw [if_pos hx, if_pos ⟨hx.1, by omega⟩]
        · rw [if_neg hx, if_neg (fun e => hx ⟨e.1, by omega⟩)]
theorem fold_val (k : Int) (hk : k = 1 ∨ k = 3) (key : ByteArray) (l : List UInt8) (val : List UInt8) (h : val.length ≤ 20) :
    l.foldl step (some (k, key, ⟨val.toArray⟩)) = if keyAll l = true ∧ val.length + l.length ≤ 20 then some (k, key, ⟨(val ++ l).toArray⟩) else none := by
  induction l generalizing val with
  | nil => rw [if_pos ⟨rfl, by simpa using h⟩, List.append_nil]; rfl
  | cons c l ih =>
    rw [List.foldl_cons, keyAll_cons]
    have hs : step (some (k, key, ⟨val.toArray⟩)) c = if keyCh c.toNat = true then (if val.length = 20 then none else some (k, key, ⟨(val ++ [c]).toArray⟩)) else none := by
      simp only [step]
      rw [if_neg (by rintro ⟨_, e⟩; simp [init] at e; omega), if_neg (by rintro ⟨_, e⟩; omega), if_neg (by rintro ⟨_, e⟩; omega), if_pos hk, ba_size]
    rw [hs]
    cases hc : keyCh c.toNat
    · simp [fold_none]
    · simp only [if_true, Bool.true_and, List.length_cons]
      by_cases h12 : val.length = 20
      · rw [if_pos h12, fold_none, if_neg (by omega)]
      · rw [if_neg h12, ih (val ++ [c]) (by simp; omega)]
        simp only [List.length_append, List.length_cons, List.length_nil, List.append_assoc, List.singleton_append]
        by_cases hx : keyAll l = true ∧ val.length + (0 + 1) + l.length ≤ 20
        · rw [if_pos hx, if_pos ⟨hx.1, by omega⟩]
        · rw [if_neg hx, if_neg (fun e => hx ⟨e.1, by omega⟩)]
theorem opGo_pre (l pre : List UInt8) (o : Od) (h : opGo pre l = some o) : (1 ≤ o.1 ∧ o.1 ≤ 3 ∧ o.1 ≠ 2) ∧ plainS o.2.2 = true ∧ (∃ m, o.2.1.data.toList = pre ++ m) ∧ odText o = pre ++ l := by
  induction l generalizing pre with
  | nil => simp [opGo] at h
  | cons c l ih =>
    rw [opGo] at h
    split at h
    · next hc =>
      split at h
      · next hp =>
        simp only [Option.some.injEq] at h
        subst h
        rcases hc with rfl | rfl
        · exact ⟨by simp, hp, ⟨[], by simp⟩, by simp [odText]⟩
        · exact ⟨by simp, hp, ⟨[], by simp⟩, by simp [odText]⟩
      · cases h
    · obtain ⟨h1, h2, ⟨m, h3⟩, h4⟩ := ih (pre ++ [c]) h
      exact ⟨h1, h2, ⟨c :: m, by rw [h3]; simp⟩, by rw [h4]; simp⟩
theorem okW_pre (l pre : List UInt8) (h : ¬ (keyAll pre = true ∧ pre.length ≤ 12)) : okW (opGo pre l) = none := by
  cases e : opGo pre l with
  | none => rfl
  | some o =>
    obtain ⟨_, _, ⟨m, h3⟩, _⟩ := opGo_pre l pre o e
    simp only [okW]
    rw [if_neg]
    intro ho
    have hk := ((odOk_iff o).1 ho).2.2.1
    unfold keyOk at hk
    rw [← size_len, h3, keyAll_app] at hk
    simp only [Bool.and_eq_true, decide_eq_true_iff, List.length_append] at hk
    exact h ⟨hk.1.1, by omega⟩
theorem fold_word (l : List UInt8) (pre : List UInt8) (h : pre.length ≤ 12) (hk : keyAll pre = true) (hd : pre = [] → ∀ c m, l = c :: m → c ≠ 45) :
    okW (l.foldl step (some (0, ⟨pre.toArray⟩, ⟨#[]⟩))) = okW (opGo pre l) := by
  induction l generalizing pre with
  | nil => simp [opGo, okW, odOk]
  | cons c l ih =>
    rw [List.foldl_cons, opGo]
    have h45 : ¬ (c = 45 ∧ ((0, ⟨pre.toArray⟩, ⟨#[]⟩) : Od) = init) := by
      rintro ⟨e, e2⟩
      simp [init] at e2
      exact hd e2 c l rfl e
    by_cases h1 : c = 61
    · subst h1
      have hs : step (some (0, ⟨pre.toArray⟩, ⟨#[]⟩)) 61 = some (1, ⟨pre.toArray⟩, ⟨#[]⟩) := by simp only [step]; rw [if_neg h45, if_pos ⟨trivial, trivial⟩]
      rw [hs, if_pos (Or.inl rfl), show (⟨#[]⟩ : ByteArray) = ⟨([] : List UInt8).toArray⟩ from rfl, fold_val 1 (.inl rfl) _ l [] (by decide)]
      simp only [List.nil_append, List.length_nil, Nat.zero_add, plainS, ba_size, Bool.and_eq_true, decide_eq_true_iff, if_true]
    · by_cases h3 : c = 63
      · subst h3
        have hs : step (some (0, ⟨pre.toArray⟩, ⟨#[]⟩)) 63 = some (3, ⟨pre.toArray⟩, ⟨#[]⟩) := by simp only [step]; rw [if_neg h45, if_neg (by simp), if_pos ⟨trivial, trivial⟩]
        rw [hs, if_pos (Or.inr rfl), show (⟨#[]⟩ : ByteArray) = ⟨([] : List UInt8).toArray⟩ from rfl, fold_val 3 (.inr rfl) _ l [] (by decide)]
        simp only [List.nil_append, List.length_nil, Nat.zero_add, plainS, ba_size, Bool.and_eq_true, decide_eq_true_iff, h1, if_false]
      · rw [if_neg (by rintro (e | e); exact h1 e; exact h3 e)]
        have hs : step (some (0, ⟨pre.toArray⟩, ⟨#[]⟩)) c = if keyCh c.toNat = true then (if pre.length = 12 then none else some (0, ⟨(pre ++ [c]).toArray⟩, ⟨#[]⟩)) else none := by
          simp only [step]
          rw [if_neg h45, if_neg (fun e => h1 e.1), if_neg (fun e => h3 e.1), if_neg (by decide : ¬ ((0 : Int) = 1 ∨ (0 : Int) = 3)), ba_size]
        rw [hs]
        cases hc : keyCh c.toNat
        · rw [if_neg (by decide), fold_none, okW_pre l (pre ++ [c]) (by rw [keyAll_app, keyAll_cons, hc]; simp)]
          rfl
        · rw [if_pos rfl]
          by_cases h12 : pre.length = 12
          · rw [if_pos h12, fold_none, okW_pre l (pre ++ [c]) (by rintro ⟨_, e⟩; simp at e; omega)]
            rfl
          · rw [if_neg h12]
            exact ih (pre ++ [c]) (by simp; omega) (by rw [keyAll_app, hk, keyAll_cons, hc]; rfl) (fun e => by simp at e)
theorem tell_word (w : List UInt8) : okW (tell w) = okW (wordOp w) := by
  unfold tell
  cases w with
  | nil => simp [wordOp, okW, odOk, init]
  | cons c l =>
    by_cases hc : c = 45
    · subst hc
      rw [List.foldl_cons]
      have hs : step (some init) 45 = some (2, ⟨([] : List UInt8).toArray⟩, ⟨#[]⟩) := rfl
      rw [hs, fold_key l [] (by decide), wordOp, if_pos rfl]
      simp only [List.nil_append, List.length_nil, Nat.zero_add]
      by_cases hx : keyAll l = true ∧ l.length ≤ 12
      · rw [if_pos hx]
      · rw [if_neg hx]
        simp only [okW]
        rw [if_neg]
        intro ho
        have hk := ((odOk_iff _).1 ho).2.2.1
        rw [keyOk_mk] at hk
        simp only [Bool.and_eq_true, decide_eq_true_iff] at hk
        exact hx ⟨hk.1, hk.2.2⟩
    · rw [wordOp, if_neg hc]
      exact fold_word (c :: l) [] (by decide) rfl (fun _ c' m e => by cases e; exact hc)

/-! ### all words -/
theorem allOf_cons {α β : Type} (f : α → Option β) (a : α) (l : List α) : allOf f (a :: l) = match f a with | none => none | some b => match allOf f l with | none => none | some m => some (b :: m) := rfl
theorem okW_some {t : Option Od} {o : Od} (e : t = some o) (h : odOk o = true) : okW t = some o := by rw [e]; simp only [okW, if_pos h]
theorem okW_none {t : Option Od} {o : Od} (e : t = some o) (h : ¬ odOk o = true) : okW t = none := by rw [e]; simp only [okW, if_neg h]
theorem allOf_okW (f : List UInt8 → Option Od) (ws : List (List UInt8)) : (allOf f ws).bind onlyOk = (allOf (fun w => okW (f w)) ws).bind onlyOk := by
  have h : ∀ l, allOf f ws = some l → (∀ p ∈ l, odOk p = true) → allOf (fun w => okW (f w)) ws = some l := by
    induction ws with
    | nil => intro l h _; exact h
    | cons w ws ih =>
      intro l h hl
      rw [allOf_cons] at h ⊢
      cases e : f w with
      | none => rw [e] at h; cases h
      | some o =>
        rw [e] at h
        cases e2 : allOf f ws with
        | none => rw [e2] at h; cases h
        | some m =>
          rw [e2] at h
          simp only [Option.some.injEq] at h
          subst h
          rw [okW_some (t := some o) rfl (hl o (List.mem_cons_self)), ih m e2 (fun p hp => hl p (List.mem_cons_of_mem _ hp))]
  have h2 : ∀ l, allOf (fun w => okW (f w)) ws = some l → allOf f ws = some l ∧ ∀ p ∈ l, odOk p = true := by
    clear h
    induction ws with
    | nil => intro l h; cases h; exact ⟨rfl, fun p hp => absurd hp List.not_mem_nil⟩
    | cons w ws ih =>
      intro l h
      rw [allOf_cons] at h ⊢
      cases e : f w with
      | none => rw [e] at h; cases h
      | some o =>
        by_cases ho : odOk o = true
        · rw [okW_some e ho] at h
          cases e2 : allOf (fun w => okW (f w)) ws with
          | none => rw [e2] at h; cases h
          | some m =>
            rw [e2] at h
            simp only [Option.some.injEq] at h
            subst h
            obtain ⟨h4, h5⟩ := ih m e2
            rw [h4]
            refine ⟨rfl, fun p hp => ?_⟩
            rcases List.mem_cons.1 hp with rfl | hp
            · exact ho
            · exact h5 p hp
        · rw [okW_none e ho] at h; cases h
  cases e : allOf f ws with
  | none =>
    cases e2 : allOf (fun w => okW (f w)) ws with
    | none => rfl
    | some l => rw [(h2 l e2).1] at e; cases e
  | some l =>
    cases e2 : allOf (fun w => okW (f w)) ws with
    | some m =>
      have := (h2 m e2).1
      rw [e] at this
      cases this
      rfl
    | none =>
      show onlyOk l = none
      unfold onlyOk
      rw [if_neg]
      intro ho
      have := h l e ((opsOk_iff l).1 ho).1.1
      rw [e2] at this
      cases this
theorem go_split (l cur : List UInt8) (acc : List Od) : go acc (tell cur) l = (allOf tell (splitGo 32 cur l)).map (acc ++ ·) := by
  induction l generalizing cur acc with
  | nil =>
    rw [go_nil]
    simp only [splitGo, allOf]
    cases tell cur <;> rfl
  | cons c l ih =>
    rw [go_cons, splitGo]
    by_cases hc : c = 32
    · rw [if_pos hc, if_pos hc]
      simp only [allOf]
      cases e : tell cur with
      | none => rfl
      | some o =>
        have := ih [] (acc ++ [o])
        rw [show tell [] = some init from rfl] at this
        simp only [this]
        cases allOf tell (splitGo 32 [] l) with
        | none => rfl
        | some m => simp
    · rw [if_neg hc, if_neg hc, ← ih (cur ++ [c]) acc]
      congr 1
      unfold tell
      rw [List.foldl_append]
      rfl
theorem parse_go (s : List UInt8) : (go [] (some init) s).bind onlyOk = parseOps s := by
  have h := go_split s [] []
  rw [show tell [] = some init from rfl] at h
  rw [h]
  have e : (allOf tell (splitGo 32 [] s)).map (([] : List Od) ++ ·) = allOf tell (splitGo 32 [] s) := by
    cases allOf tell (splitGo 32 [] s) <;> rfl
  rw [e, allOf_okW tell, parseOps, allOf_okW wordOp]
  congr 2
  funext w
  exact tell_word w
/-! ### they come back -/
theorem split_noblank (w l cur : List UInt8) (h : (32 : UInt8) ∉ w) : splitGo 32 cur (w ++ l) = splitGo 32 (cur ++ w) l := by
  induction w generalizing cur with
  | nil => simp
  | cons c w ih =>
    rw [List.mem_cons, not_or] at h
    rw [List.cons_append, splitGo, if_neg (fun e => h.1 e.symm), ih _ h.2]
    simp
theorem split_join (x : List UInt8) (r : List (List UInt8)) (h : ∀ w ∈ x :: r, (32 : UInt8) ∉ w) : splitGo 32 [] (Lib.join (x :: r) [32]) = x :: r := by
  induction r generalizing x with
  | nil =>
    rw [Lib.join_one]
    have := split_noblank x [] [] (h x List.mem_cons_self)
    rw [List.append_nil] at this
    rw [this]
    simp [splitGo]
  | cons y r ih =>
    have hj : Lib.join (x :: y :: r) [32] = x ++ 32 :: Lib.join (y :: r) [32] := by
      rw [Lib.join_cons, Lib.join_cons]; simp [Lib.joinTail]
    rw [hj, split_noblank x _ _ (h x List.mem_cons_self), splitGo, if_pos rfl, ih y (fun w hw => h w (List.mem_cons_of_mem _ hw))]
    simp
theorem allOf_map {α β : Type} (f : α → Option β) (g : β → α) (l : List β) (h : ∀ b ∈ l, f (g b) = some b) : allOf f (l.map g) = some l := by
  induction l with
  | nil => rfl
  | cons b l ih =>
    rw [List.map_cons]
    simp only [allOf]
    rw [h b List.mem_cons_self, ih (fun x hx => h x (List.mem_cons_of_mem _ hx))]
theorem keyAll_no {l : List UInt8} (h : keyAll l = true) (c : UInt8) (hc : keyCh c.toNat = false) : c ∉ l := by
  intro hm
  have := List.all_eq_true.1 h c hm
  simp only [hc] at this
  cases this
theorem opGo_key (key val : List UInt8) (c : UInt8) (hc : c = 61 ∨ c = 63) (hv : plainS ⟨val.toArray⟩ = true) (hk : keyAll key = true) (pre : List UInt8) :
    opGo pre (key ++ c :: val) = some (if c = 61 then 1 else 3, ⟨(pre ++ key).toArray⟩, ⟨val.toArray⟩) := by
  induction key generalizing pre with
  | nil => rw [List.nil_append, opGo, if_pos hc, if_pos hv, List.append_nil]
  | cons d key ih =>
    rw [keyAll_cons, Bool.and_eq_true] at hk
    have hd : ¬ (d = 61 ∨ d = 63) := by
      rintro (e | e)
      · subst e; have := hk.1; revert this; decide
      · subst e; have := hk.1; revert this; decide
    rw [List.cons_append, opGo, if_neg hd, ih hk.2]
    simp
theorem text_word {o : Od} (ho : odOk o = true) (hp : plainS o.2.2 = true) : wordOp (odText o) = some o ∧ (32 : UInt8) ∉ odText o := by
  obtain ⟨k, key, val⟩ := o
  obtain ⟨h1, h2, h3, h4⟩ := (odOk_iff _).1 ho
  simp only [] at h1 h2 h3 h4 hp
  have hka : keyAll key.data.toList = true := by unfold keyOk at h3; exact (Bool.and_eq_true_iff.1 h3).1
  have hks := keyOk_size h3
  have hva : keyAll val.data.toList = true := by unfold plainS at hp; exact (Bool.and_eq_true_iff.1 hp).1
  have n1 := keyAll_no hka 32 (by decide)
  have n2 := keyAll_no hva 32 (by decide)
  have hne : key.data.toList ≠ [] := by intro e; have := size_len key; rw [e] at this; simp at this; omega
  have hp' : plainS ⟨val.data.toList.toArray⟩ = true := by rw [ba_eta]; exact hp
  have hhead : ∀ m, ∃ d t, key.data.toList ++ m = d :: t ∧ d ≠ 45 := by
    intro m
    cases e : key.data.toList with
    | nil => exact absurd e hne
    | cons d t =>
      refine ⟨d, t ++ m, rfl, fun e2 => ?_⟩
      subst e2
      exact keyAll_no hka 45 (by decide) (by rw [e]; exact List.mem_cons_self)
  have hk3 : k = 1 ∨ k = 2 ∨ k = 3 := by omega
  rcases hk3 with rfl | rfl | rfl
  · simp only [odText, if_true]
    refine ⟨?_, by simp [n1, n2]⟩
    obtain ⟨d, t, e, hd⟩ := hhead (61 :: val.data.toList)
    rw [e, wordOp, if_neg hd, ← e, opGo_key _ _ 61 (.inl rfl) hp' hka []]
    simp
  · have hv0 := h2 rfl
    have : val = ⟨#[]⟩ := bytes_ext (List.eq_nil_of_length_eq_zero (by rw [size_len]; exact hv0))
    subst this
    simp only [odText, show ¬ ((2 : Int) = 1) by decide, if_false, if_true]
    exact ⟨by simp [wordOp], by simp [n1]⟩
  · simp only [odText, show ¬ ((3 : Int) = 1) by decide, show ¬ ((3 : Int) = 2) by decide, if_false]
    refine ⟨?_, by simp [n1, n2]⟩
    obtain ⟨d, t, e, hd⟩ := hhead (63 :: val.data.toList)
    rw [e, wordOp, if_neg hd, ← e, opGo_key _ _ 63 (.inr rfl) hp' hka []]
    simp
theorem text_parse {l : List Od} (h : opsOk l = true) (hp : (l.all fun o => plainS o.2.2) = true) : parseOps (opsText l) = some l := by
  unfold opsText parseOps
  rw [if_pos ⟨h, hp⟩]
  obtain ⟨⟨hall, _⟩, hl, _⟩ := (opsOk_iff l).1 h
  have ht : ∀ o ∈ l, wordOp (odText o) = some o ∧ (32 : UInt8) ∉ odText o := fun o ho => text_word (hall o ho) (List.all_eq_true.1 hp o ho)
  obtain ⟨x, r, e⟩ : ∃ x r, l.map odText = x :: r := by
    cases l with
    | nil => simp at hl
    | cons a b => exact ⟨_, _, rfl⟩
  rw [e, split_join x r (fun w hw => by
    rw [← e] at hw
    obtain ⟨o, ho, rfl⟩ := List.mem_map.1 hw
    exact (ht o ho).2), ← e, allOf_map wordOp odText l (fun o ho => (ht o ho).1)]
  show onlyOk l = some l
  unfold onlyOk
  rw [if_pos h]
theorem text_empty {l : List Od} (h : ¬ (opsOk l = true ∧ (l.all fun o => plainS o.2.2) = true)) : opsText l = [] := by unfold opsText; rw [if_neg h]
theorem text_some {l : List Od} (h : opsText l ≠ []) : opsOk l = true ∧ (l.all fun o => plainS o.2.2) = true := by
  apply Classical.byContradiction; intro e; exact h (text_empty e)

end Go.Proofs.Ytefjbpkomphjdaa.txts

namespace Go.Proofs.Ytefjbpkomphjdaa.txts
open Go Go.RowKit Go.Proofs.Ytefjbpkomphjdaa.base Go.Proofs.Ytefjbpkomphjdaa.pairs Go.Proofs.Ytefjbpkomphjdaa.ords
set_option linter.unusedVariables false
set_option linter.unusedSimpArgs false

set_option maxRecDepth 100000 in
set_option maxHeartbeats 1000000 in
theorem spec_plain (s : ByteArray) (w : World) (hs : s.size ≤ 1099511627776) :
    Calls Try.prog 36 #[.string s] w fun e w' => e = .returned (.bool (plainS s)) ∧ w' = w := by
  generalize hR : keyAll s.data.toList = R
  have HR := Hid.mk' hR
  clear hR
  go_enter Try.func36, Try.ntmps36
  go_wp2
  go_loop [3] (fun i => ∃ k : Nat, k ≤ s.size ∧ i = .int .i64 (k : Int) ∧ keyAll (s.data.toList.drop k) = R) (fun i => s.size - (intOf i).toNat)
  case atStart => exact ⟨0, Nat.zero_le _, rfl, HR.out⟩
  case round =>
    obtain ⟨k, hk, rfl, hr⟩ := hrel
    by_cases hlt : k < s.size
    · have hst := keyAll_drop s k hlt
      rw [hr] at hst
      have hc := s[k].toNat_lt
      generalize hC : s[k].toNat = c at *
      have HST := Hid.mk' hst
      have HC := Hid.mk' hC
      clear hst hr
      have hki : (k : Int) < (s.size : Int) := by omega
      by_cases h1 : 97 ≤ c ∧ c ≤ 122
      · have HF : Hid (keyAll (s.data.toList.drop (k + 1)) = R) := by
          show _ = _
          have := HST.out; rw [show keyCh c = true by simp [keyCh, h1]] at this; simpa using this.symm
        have hl := s_inZ (c : Int) 97 122 w
        rw [decide_eq_true (by omega)] at hl
        have HL := Hid.mk' hl
        clear hl HST
        go_wp2_with fail
        refine HL.out.mono ?_
        rintro e w1 ⟨rfl, rfl⟩
        go_wp2_with fail
        go_round
        case rel => exact ⟨k + 1, by omega, by go_num, HF.out⟩
        case measure => simp [intOf]; omega
      · have hl := s_inZ (c : Int) 97 122 w
        rw [decide_eq_false (by omega)] at hl
        have HL := Hid.mk' hl
        clear hl
        by_cases h2 : 48 ≤ c ∧ c ≤ 57
        · have HF : Hid (keyAll (s.data.toList.drop (k + 1)) = R) := by
            show _ = _
            have := HST.out; rw [show keyCh c = true by simp [keyCh, h2]] at this; simpa using this.symm
          have hl := s_inZ (c : Int) 48 57 w
          rw [decide_eq_true (by omega)] at hl
          have HL2 := Hid.mk' hl
          clear hl HST
          go_wp2_with fail
          refine HL.out.mono ?_
          rintro e w1 ⟨rfl, rfl⟩
          go_wp2_with fail
          refine HL2.out.mono ?_
          rintro e w1 ⟨rfl, rfl⟩
          go_wp2_with fail
          go_round
          case rel => exact ⟨k + 1, by omega, by go_num, HF.out⟩
          case measure => simp [intOf]; omega
        · have HF : Hid (R = false) := by
            show _ = _
            have := HST.out; rw [show keyCh c = false by simp only [keyCh, h1, h2]; rfl] at this; simpa using this
          have hl := s_inZ (c : Int) 48 57 w
          rw [decide_eq_false (by omega)] at hl
          have HL2 := Hid.mk' hl
          clear hl HST
          go_wp2_with fail
          refine HL.out.mono ?_
          rintro e w1 ⟨rfl, rfl⟩
          go_wp2_with fail
          refine HL2.out.mono ?_
          rintro e w1 ⟨rfl, rfl⟩
          go_wp2_with fail
          go_ret
          exact ⟨ret_bool (by unfold plainS; rw [HR.out, HF.out]; rfl), rfl⟩
    · have HF : Hid (R = true) := by show _ = _; rw [← hr, List.drop_eq_nil_of_le (by simp; omega)]; rfl
      clear hr
      by_cases h20 : s.size ≤ 20
      · have h20i : (s.size : Int) ≤ 20 := by omega
        go_wp2_with fail
        go_ret
        exact ⟨ret_bool (by unfold plainS; rw [HR.out, HF.out, decide_eq_true h20]; simp [h20i]), rfl⟩
      · have h20i : ¬ (s.size : Int) ≤ 20 := by omega
        go_wp2_with fail
        go_ret
        exact ⟨ret_bool (by unfold plainS; rw [HR.out, HF.out, decide_eq_false h20]; simp [h20i]), rfl⟩

def begun (s : ByteArray) (f k : Nat) : List UInt8 := (s.data.toList.drop f).take (k - f)
end Go.Proofs.Ytefjbpkomphjdaa.txts

namespace Go.Proofs.Ytefjbpkomphjdaa.txts
open Go Go.RowKit Go.Proofs.Ytefjbpkomphjdaa.base Go.Proofs.Ytefjbpkomphjdaa.pairs Go.Proofs.Ytefjbpkomphjdaa.ords
set_option linter.unusedVariables false
set_option linter.unusedSimpArgs false

section
variable {X : Nat} {p q : Od} {w w' : World}
end
end Go.Proofs.Ytefjbpkomphjdaa.txts

namespace Go.Proofs.Ytefjbpkomphjdaa.txts
open Go Go.RowKit Go.Proofs.Ytefjbpkomphjdaa.base Go.Proofs.Ytefjbpkomphjdaa.pairs Go.Proofs.Ytefjbpkomphjdaa.ords
set_option linter.unusedVariables false
set_option linter.unusedSimpArgs false

def TPost (w : World) (r : Option (List Od)) (e : Ending) (w' : World) : Prop :=
  ∃ g n cp, e = .returned (.tuple #[.slice (some ⟨g, 0, none⟩) n cp, .bool r.isSome]) ∧ OwnO w' w.heap.size g n cp (r.getD []) ∧ Below w.heap.size w w'
theorem tPost_none {w w' : World} {g : Nat} (h : OwnO w' w.heap.size g 0 0 []) (hb : Below w.heap.size w w') {r : Option (List Od)} (hr : r = none) : TPost w r (.returned (.tuple #[.slice (some ⟨g, 0, none⟩) 0 0, .bool false])) w' := by
  subst hr; exact ⟨g, 0, 0, rfl, h, hb⟩
end Go.Proofs.Ytefjbpkomphjdaa.txts
