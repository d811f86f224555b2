/- The program's statements: orders of a text, sign by sign. The program's statements: ParseOps. The contracts of strings.Join and strings.ContainsFunc, as the library proves them, at this program (laid by the shelf's tools, then wip/shtpl.py). The program's statements: the texts of orders and of pairs. Plain mathematics: how many blanks stand in a text of pairs. -/
import Derived.Test.YtefjbpkomphjdaaShab
import Derived.Shelf.Strings.FuncGrows
import Derived.Deep.LoopGhost
import Derived.Shelf.Strings.Builder1
import Derived.Shelf.Strings.Builder2
import Derived.Shelf.Strings.OnBuilder
import Derived.Shelf.GgClosure.StringsIndexFunc
import Derived.Ground.GgwProg
import Derived.Shelf.GgClosure.StringsIndexFuncTop
import Derived.Test.YtefjbpkomphjdaaRows
import Derived.Test.YtefjbpkomphjdaaShac
namespace Go.Proofs.Ytefjbpkomphjdaa.txts
open Go Go.RowKit Go.Proofs.Ytefjbpkomphjdaa.base Go.Proofs.Ytefjbpkomphjdaa.pairs Go.Proofs.Ytefjbpkomphjdaa.ords
set_option linter.unusedVariables false
set_option linter.unusedSimpArgs false

/-! ### sign by sign, a blank behind each word -/
end Go.Proofs.Ytefjbpkomphjdaa.txts

namespace Go.Proofs.Ytefjbpkomphjdaa.txts
open Go Go.RowKit Go.Proofs.Ytefjbpkomphjdaa.base Go.Proofs.Ytefjbpkomphjdaa.pairs Go.Proofs.Ytefjbpkomphjdaa.ords
set_option linter.unusedVariables false
set_option linter.unusedSimpArgs false

end Go.Proofs.Ytefjbpkomphjdaa.txts

namespace Go.Proofs.Ytefjbpkomphjdaa.txsh
open Go Go.Proofs Go.Shelf
def lays156_ren : Go.Shelf.Ren := ⟨fun | 156 => 60 | 165 => 74 | 166 => 75 | 169 => 76 | 240 => 80 | 241 => 81 | 276 => 82 | 277 => 83 | n => n, fun | 31 => 66 | 9 => 9 | 3 => 3 | 4 => 4 | 0 => 0 | 20 => 20 | 72 => 102 | 76 => 106 | 70 => 100 | 37 => 22 | 75 => 105 | 127 => 111 | 164 => 112 | 5 => 5 | 80 => 58 | n => n, fun | n => n⟩
theorem lays156 : Go.Proofs.Lays.n156 Try.prog lays156_ren := {
  mixed := by kernel_rfl
  f156 := Try.func60.trans (congrArg some (by kernel_rfl))
  f165 := Try.func74.trans (congrArg some (by kernel_rfl))
  f166 := Try.func75.trans (congrArg some (by kernel_rfl))
  f169 := Try.func76.trans (congrArg some (by kernel_rfl))
  f240 := Try.func80.trans (congrArg some (by kernel_rfl))
  f241 := Try.func81.trans (congrArg some (by kernel_rfl))
  f276 := Try.func82.trans (congrArg some (by kernel_rfl))
  f277 := Try.func83.trans (congrArg some (by kernel_rfl))
  t0 := Try.underlying0
  a0 := Try.isAgg0
  z0 := Try.sizeOf0
  v0 := Try.zeroValue0
  t3 := Try.underlying3
  a3 := Try.isAgg3
  z3 := Try.sizeOf3
  v3 := Try.zeroValue3
  t4 := Try.underlying4
  a4 := Try.isAgg4
  z4 := Try.sizeOf4
  v4 := Try.zeroValue4
  t9 := Try.underlying9
  a9 := Try.isAgg9
  z9 := Try.sizeOf9
  v9 := Try.zeroValue9
  t20 := Try.underlying20
  a20 := Try.isAgg20
  z20 := Try.sizeOf20
  v20 := Try.zeroValue20
  t31 := Try.underlying66
  a31 := Try.isAgg66
  z31 := Try.sizeOf66
  v31 := Try.zeroValue66
  t37 := Try.underlying22
  a37 := Try.isAgg22
  z37 := Try.sizeOf22
  v37 := Try.zeroValue22
  t70 := Try.underlying100
  a70 := Try.isAgg100
  z70 := Try.sizeOf100
  v70 := Try.zeroValue100
  t72 := Try.underlying102
  a72 := Try.isAgg102
  z72 := Try.sizeOf102
  v72 := Try.zeroValue102
  t75 := Try.underlying105
  a75 := Try.isAgg105
  z75 := Try.sizeOf105
  v75 := Try.zeroValue105
  t76 := Try.underlying106
  a76 := Try.isAgg106
  z76 := Try.sizeOf106
  v76 := Try.zeroValue106
  t127 := Try.underlying111
  a127 := Try.isAgg111
  z127 := Try.sizeOf111
  v127 := Try.zeroValue111
  t164 := Try.underlying112
  a164 := Try.isAgg112
  z164 := Try.sizeOf112
  v164 := Try.zeroValue112 }
theorem Builder_Extra_156 : Builder.Extra Try.prog lays156_ren := {
  sizeBuilder := by kernel_rfl
  liesBuilder := by kernel_rfl
  t5 := Try.underlying5
  a5 := Try.isAgg5
  z5 := Try.sizeOf5
  v5 := Try.zeroValue5
  infoByte := by kernel_rfl
  cellsByte := by kernel_rfl
  sizeByte := by kernel_rfl
  neB5 := by decide }
open Go.RowKit in
theorem strings_Join (bk o c : Nat) (xs : List ByteArray) (sep : ByteArray) (w : World) (hcells : ∀ (j : Nat) x, xs[j]? = some x → w.cell? ⟨bk, o + j, none⟩ = some (.string x)) (hbk : bk < w.heap.size) (hN : xs.length ≤ 140737488355328) (hcap : xs.length ≤ c) (hlen : (Lib.join (xs.map (·.data.toList)) sep.data.toList).length ≤ 140737488355328) :
    Calls Try.prog 60 #[.slice (some ⟨bk, o, none⟩) xs.length c, .string sep] w fun e w' => e = .returned (.string ⟨(Lib.join (xs.map (·.data.toList)) sep.data.toList).toArray⟩) ∧ Below w.heap.size w w' := Any.strings_Join lays156 Builder_Extra_156 bk o c xs sep w hcells hbk hN hcap hlen
end Go.Proofs.Ytefjbpkomphjdaa.txsh

namespace Go.Proofs.Ytefjbpkomphjdaa.txts
open Go Go.RowKit Go.Proofs.Ytefjbpkomphjdaa.base Go.Proofs.Ytefjbpkomphjdaa.pairs Go.Proofs.Ytefjbpkomphjdaa.ords Go.Proofs.Ytefjbpkomphjdaa.txsh
set_option linter.unusedVariables false
set_option linter.unusedSimpArgs false

/-! ### values with other bytes -/
/-! ### one order, one pair -/
set_option maxHeartbeats 1000000 in
theorem i_prText (p : Pr) (w : World) (h1 : p.1.size ≤ 1099511627776) (h2 : p.2.size ≤ 1099511627776) :
    Calls Try.prog 46 #[.agg #[.string p.1, .string p.2]] w fun e w' => e = .returned (.string ⟨(prText p).toArray⟩) ∧ Below w.heap.size w w' := by
  have hb : Below w.heap.size w (w.alloc (.cells #[.string p.1, .string p.2] 36)) := (Below.refl _ _).alloc (Nat.le_refl _) _
  obtain ⟨u1, hu1⟩ : ∃ u1, u1 = p.1 ++ (⟨#[61]⟩ : ByteArray) := ⟨_, rfl⟩
  obtain ⟨u2, hu2⟩ : ∃ u2, u2 = u1 ++ p.2 := ⟨_, rfl⟩
  have s1 : u1.size = p.1.size + 1 := app_size hu1
  have a1 := add_str p.1 ⟨#[61]⟩ u1 hu1 (by show p.1.size + 1 ≤ _; omega)
  have a2 := add_str u1 p.2 u2 hu2 (by omega)
  have HJ : Hid (u2 = (⟨(prText p).toArray⟩ : ByteArray)) := by
    show _ = _
    apply bytes_ext
    rw [app_list hu2, app_list hu1]
    simp [prText]
  clear hu1 hu2 s1
  go_enter Try.func46, Try.ntmps46
  go_wp2_with fail
  go_ret
  exact ⟨by rw [HJ.out]; rfl, hb⟩
/-! ### all of them -/
def baOf (l : List UInt8) : ByteArray := ⟨l.toArray⟩
theorem baOf_list (ts : List (List UInt8)) : (ts.map baOf).map (·.data.toList) = ts := by
  rw [List.map_map]
  have e : ((fun s : ByteArray => s.data.toList) ∘ baOf) = id := by funext l; simp [baOf]
  rw [e, List.map_id]

set_option maxRecDepth 100000 in
set_option maxHeartbeats 2000000 in
theorem i_spokenP (b len cap : Nat) (l : List Pr) (w : World) (h : SlP w (some ⟨b, 0, none⟩) len l) (hlen : len ≤ 1099511627776) (hks : ∀ o ∈ l, o.1.size ≤ 1099511627776 ∧ o.2.size ≤ 1099511627776) (hrm : room (l.map prText) ≤ 1099511627776) :
    Calls Try.prog 45 #[.slice (some ⟨b, 0, none⟩) len cap, .func (.func 46) #[] #[]] w fun e w' => e = .returned (.string ⟨(Lib.join (l.map prText) [32]).toArray⟩) ∧ Below w.heap.size w w' := by
  have hl := h.1
  subst hl
  obtain ⟨i0, hi, hz0, hz1, hz2⟩ := info_parts info9
  have HKS := Hid.mk' hks
  clear hks
  have hsz : ∀ o ∈ l, (baOf (prText o)).size ≤ maxLen := fun o ho => by
    have := lens_mem (l.map prText) (prText o) (List.mem_map.2 ⟨o, ho, rfl⟩)
    unfold room at hrm
    unfold baOf
    rw [ba_size]
    unfold maxLen
    omega
  have HSZ := Hid.mk' hsz
  clear hsz
  obtain ⟨ts, hts⟩ : ∃ ts, ts = l.map (fun o => baOf (prText o)) := ⟨_, rfl⟩
  have HTS := Hid.mk' hts
  clear hts
  go_enter Try.func45, Try.ntmps45
  go_wp2_with (at_make; refine wpList_make_own _ rfl _ _ 66 rfl w.heap.size 9 i0 (.string ⟨#[]⟩) 1 Try.underlying66 hi hz0 hz1 _ _ _ l.length rfl rfl rfl ?b2 ?b3 ?b4 ?_)
  case b2 => rw [hz2]; omega
  case b3 => unfold maxLen; omega
  case b4 => exact Nat.le_refl _
  intro w1 hown hgrow
  have hO1 : OwnS w1 w.heap.size w.heap.size 0 l.length (ts.take 0) := ⟨rfl, fun s hs => absurd hs List.not_mem_nil, hown⟩
  have hB1 : Below w.heap.size w w1 := (Below.refl _ _).grown hgrow (Nat.le_refl _) (fun k e => by cases e)
  clear hown hgrow
  go_wp2_with fail
  go_loopw [5, 13] (fun o i wr => ∃ (k g cp : Nat), o = .slice (some ⟨g, 0, none⟩) k cp ∧ i = .int .i64 (k : Int) ∧ k ≤ l.length ∧ OwnS wr w.heap.size g k cp (ts.take k) ∧ Below w.heap.size w wr) (fun o i _ => l.length - (intOf i).toNat)
  case atStart => exact ⟨0, w.heap.size, l.length, rfl, rfl, Nat.zero_le _, hO1, hB1⟩
  case round =>
    obtain ⟨k, g, cp, rfl, rfl, hk, hO, hB⟩ := hrel
    clear hO1 hB1
    by_cases hlt : k < l.length
    · have hki : (k : Int) < (l.length : Int) := by omega
      have hS := h.below hB
      obtain ⟨c0, c1⟩ := hS.cells k hlt
      simp only [Nat.zero_add] at c0 c1
      have hko := HKS.out _ (List.getElem_mem hlt)
      have HC := Hid.mk' (fun W => i_prText l[k] W hko.1 hko.2)
      have HZ := Hid.mk' (HSZ.out _ (List.getElem_mem hlt))
      have HT : Hid (ts.take k ++ [baOf (prText l[k])] = ts.take (k + 1)) := by
        show _ = _
        have htk : k < ts.length := by rw [HTS.out, List.length_map]; exact hlt
        have hge : ts[k] = baOf (prText l[k]) := by simp only [HTS.out, List.getElem_map]
        rw [List.take_succ_eq_append_getElem htk, hge]
      clear hko hS
      generalize l[k] = o at *
      have hbw := hB.size
      have hc3 : k + 1 ≤ maxLen := by unfold maxLen; omega
      have hc4 : (k + 1) * 16 ≤ 140737488355328 := by omega
      have hba : Below wr.heap.size wr (wr.alloc (.cells #[.string o.1, .string o.2] 36)) := (Below.refl _ _).alloc (Nat.le_refl _) _
      go_wp2_with fail
      refine (HC.out _).mono ?_
      rintro e w2 ⟨rfl, hb2⟩
      have hbb := hba.trans (hb2.mono hba.size)
      have hO4 := hO.below hbb
      have hB4 := hB.trans (hbb.mono hB.size)
      have hbw4 := hB4.size
      clear hO hB hba hb2 hbb c0 c1
      go_wp2_with (at_builtin; refine wpList_append_own _ rfl _ _ 66 rfl w.heap.size 9 i0 (.string ⟨#[]⟩) 1 16 Try.underlying66 hi hz0 hz1 hz2 rfl (by decide) _ _ _ rfl (hO4.2.2.alloc _) ⟨w2.heap.size, 0, none⟩ 1 1 [_] rfl rfl (cell_one_new _ _ _) (str_oneCell _) hc3 hc4 (leAlloc _ _ hbw4) ?_)
      intro v3 w3 hown hgrow hnn
      rw [← strVals_snoc] at hown
      obtain ⟨g3, cp3, hv, hO3⟩ := ownS_val (by have := hO4.1; rw [List.length_append]; simp only [List.length_cons, List.length_nil]; omega) (by
        intro x hx
        rcases List.mem_append.1 hx with hx | hx
        · exact hO4.2.1 x hx
        · simp at hx; subst hx; exact HZ.out) hnn hown
      subst hv
      have hB3 : Below w.heap.size w w3 := (hB4.alloc hbw4 _).grown hgrow (leAlloc _ _ hbw4) (fun k e => by simp [Value.ownBlock] at e; have := hO4.lt; omega)
      rw [show ([(⟨(prText o).toArray⟩ : ByteArray)] : List ByteArray) = [baOf (prText o)] from rfl, HT.out] at hO3
      have HO3 := Hid.mk' hO3
      clear hown hgrow hnn hO4 hO3 hB4
      go_wp2_with fail
      go_roundw
      case rel => exact ⟨k + 1, g3, cp3, rfl, by go_num, by omega, HO3.out, hB3⟩
      case measure => simp [intOf]; omega
    · have hki : ¬ (k : Int) < (l.length : Int) := by omega
      obtain rfl : k = l.length := by omega
      have hmm : ts = (l.map prText).map baOf := by rw [HTS.out, List.map_map]; rfl
      have htl : ts.length = l.length := by rw [HTS.out, List.length_map]
      rw [List.take_of_length_le (by omega)] at hO
      have hcap := hO.cases
      have hjl : (Lib.join (ts.map (·.data.toList)) [32]).length ≤ 140737488355328 := by
        rw [hmm, baOf_list]
        have := join_room (l.map prText)
        omega
      have hat := hO.at
      have HJ := strings_Join g 0 cp ts ⟨#[32]⟩ wr (by
        intro j x hx
        obtain ⟨hj, e⟩ := List.getElem?_eq_some_iff.1 hx
        rw [Nat.zero_add, hat j hj, e]) hO.lt.2 (by omega) (by omega) hjl
      rw [htl, hmm] at HJ
      rw [baOf_list] at HJ
      have HJ := Hid.mk' HJ
      clear hat hjl hcap hO
      go_wp2_with fail
      refine HJ.out.mono ?_
      rintro e w2 ⟨rfl, hb2⟩
      go_wp2_with fail
      go_ret
      exact ⟨rfl, hB.trans (hb2.mono hB.size)⟩

set_option maxRecDepth 100000 in
set_option maxHeartbeats 1000000 in
theorem impl_pairsText (b len cap : Nat) (l : List Pr) (w : World) (h : SlP w (some ⟨b, 0, none⟩) len l) (hlen : len ≤ 1099511627776) (hrm : room (l.map prText) ≤ 1099511627776) :
    Calls Try.prog 19 #[.slice (some ⟨b, 0, none⟩) len cap] w fun e w' => e = .returned (.string ⟨(pairsText l).toArray⟩) ∧ Below w.heap.size w w' := by
  have hl := h.1
  subst hl
  by_cases hn : l = []
  · subst hn
    go_enter Try.func19, Try.ntmps19
    go_wp2_with fail
    go_ret
    exact ⟨rfl, Below.refl _ _⟩
  · have hl0 : 0 < l.length := List.length_pos_iff.2 hn
    have HF : Hid ((⟨(pairsText l).toArray⟩ : ByteArray) = ⟨(Lib.join (l.map prText) [32]).toArray⟩) := by
      show _ = _; unfold pairsText; rw [if_neg hn]
    have HS := Hid.mk' (i_spokenP b l.length cap l w h hlen (fun o ho => by
      have h1 := lens_mem (l.map prText) (prText o) (List.mem_map.2 ⟨o, ho, rfl⟩)
      have h2 := size_len o.1
      have h3 := size_len o.2
      have h4 : (prText o).length = o.1.size + o.2.size + 1 := by unfold prText; simp only [List.length_append, List.length_cons]; omega
      unfold room at hrm
      exact ⟨by omega, by omega⟩) hrm)
    have hli : ¬ (l.length : Int) = 0 := by omega
    have hli2 : ((l.length : Int) == 0) = false := by rw [beq_eq_false_iff_ne]; omega
    clear hn
    go_enter Try.func19, Try.ntmps19
    go_wp2_with fail
    refine HS.out.mono ?_
    rintro e w3 ⟨rfl, hB4⟩
    go_wp2_with fail
    go_ret
    exact ⟨by rw [HF.out]; rfl, hB4⟩

end Go.Proofs.Ytefjbpkomphjdaa.txts

namespace Go.Proofs.Ytefjbpkomphjdaa.txts
open Go Go.RowKit Go.Proofs.Ytefjbpkomphjdaa.base Go.Proofs.Ytefjbpkomphjdaa.pairs Go.Proofs.Ytefjbpkomphjdaa.ords
set_option linter.unusedVariables false

def bl (l : List UInt8) : Nat := (l.filter fun c => decide (c = 32)).length
theorem bl_app (a b : List UInt8) : bl (a ++ b) = bl a + bl b := by simp [bl]
theorem bl_cons (c : UInt8) (l : List UInt8) : bl (c :: l) = (if c = 32 then 1 else 0) + bl l := by
  unfold bl
  by_cases h : c = 32
  · rw [if_pos h, List.filter_cons_of_pos (by simpa using h), List.length_cons]; omega
  · rw [if_neg h, List.filter_cons_of_neg (by simpa using h)]; omega
theorem bl_le (l : List UInt8) : bl l ≤ l.length := List.length_filter_le _ _
theorem bl_nb {v : ByteArray} (h : nb.nbB v = true) : bl v.data.toList = 0 := by
  unfold bl nb.nbB at *
  rw [List.length_eq_zero_iff, List.filter_eq_nil_iff]
  intro c hc
  have := List.all_eq_true.1 h c hc
  simpa using this
theorem bl_drop (s : ByteArray) (k : Nat) (h : k < s.size) : bl (s.data.toList.drop k) = (if s[k] = 32 then 1 else 0) + bl (s.data.toList.drop (k + 1)) := by
  rw [List.drop_eq_getElem_cons (by simpa using h), bl_cons]; rfl
def blKeys (l : List Pr) : Nat := (l.map fun p => bl p.1.data.toList).sum
theorem bl_prs (l : List Pr) (h : ∀ p ∈ l, nb.nbB p.2 = true) (h0 : l ≠ []) : bl (pairsText l) + 1 = blKeys l + l.length := by
  have hp : ∀ p : Pr, nb.nbB p.2 = true → bl (prText p) = bl p.1.data.toList := fun p hn => by
    unfold prText; rw [bl_app, bl_cons, bl_nb hn, if_neg (by decide)]; omega
  have hj : ∀ r : List Pr, (∀ p ∈ r, nb.nbB p.2 = true) → bl (Lib.joinTail [32] (r.map prText)) = blKeys r + r.length := by
    intro r
    induction r with
    | nil => intro _; rfl
    | cons p r ih =>
      intro hr
      have h1 := ih (fun q hq => hr q (List.mem_cons_of_mem _ hq))
      have h2 := hp p (hr p List.mem_cons_self)
      simp only [Lib.joinTail, List.map_cons, List.flatten_cons] at h1 ⊢
      rw [bl_app, bl_app, h1, h2]
      unfold blKeys
      simp only [List.map_cons, List.sum_cons, List.length_cons]
      have : bl [32] = 1 := by decide
      omega
  cases l with
  | nil => exact absurd rfl h0
  | cons p r =>
    unfold pairsText
    rw [if_neg (by simp), List.map_cons, Lib.join_cons, bl_app, hj r (fun q hq => h q (List.mem_cons_of_mem _ hq)), hp p (h p List.mem_cons_self)]
    unfold blKeys
    simp only [List.map_cons, List.sum_cons, List.length_cons]
    omega
theorem pairs_ne (l : List Pr) : pairsText l ≠ [] := by
  unfold pairsText
  split
  · simp
  · next h =>
    cases l with
    | nil => exact absurd rfl h
    | cons p r => rw [List.map_cons, Lib.join_cons]; unfold prText; simp
theorem blKeys_drop (l : List Pr) (k : Nat) (h : k < l.length) : blKeys (l.drop k) = bl l[k].1.data.toList + blKeys (l.drop (k + 1)) := by
  rw [List.drop_eq_getElem_cons h]; unfold blKeys; simp only [List.map_cons, List.sum_cons]

end Go.Proofs.Ytefjbpkomphjdaa.txts
