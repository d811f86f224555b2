/- The specification's statements: orders of a text. The specification's statements: the texts of orders and of pairs. The program's orders: what is right. The program's statements: orders of a text, sign by sign. -/
import Derived.Test.YtefjbpkomphjdaaShac
import Derived.Test.YtefjbpkomphjdaaShad
import Derived.BigQuiet
import Derived.Laws.Concat
import Derived.Shelf.Strings.FuncGrows
import Derived.Deep.LoopGhost
namespace Go.Proofs.Ytefjbpkomphjdaa.txts
open Go Go.RowKit Go.Proofs.Ytefjbpkomphjdaa.base Go.Proofs.Ytefjbpkomphjdaa.pairs Go.Proofs.Ytefjbpkomphjdaa.ords
set_option linter.unusedVariables false
set_option linter.unusedSimpArgs false

def TPost (w : World) (r : Option (List Od)) (e : Ending) (w' : World) : Prop :=
  ∃ g n cp, e = .returned (.tuple #[.slice (some ⟨g, 0, none⟩) n cp, .bool r.isSome]) ∧ OwnO w' w.heap.size g n cp (r.getD []) ∧ Below w.heap.size w w'
theorem tPost_none {w w' : World} {g : Nat} (h : OwnO w' w.heap.size g 0 0 []) (hb : Below w.heap.size w w') {r : Option (List Od)} (hr : r = none) : TPost w r (.returned (.tuple #[.slice (some ⟨g, 0, none⟩) 0 0, .bool false])) w' := by
  subst hr; exact ⟨g, 0, 0, rfl, h, hb⟩
def PAt (ws : List ByteArray) (R : Option (List Od)) (acc : List Od) (k : Nat) : Prop := (allOf wordOp ((ws.drop k).map fun s => s.data.toList)).map (acc ++ ·) = R
theorem pAt_start (s : ByteArray) : PAt (wordsOf 32 s) (allOf wordOp (splitGo 32 [] s.data.toList)) [] 0 := by
  unfold PAt wordsOf
  rw [List.drop_zero, List.map_map]
  have e : ((fun s : ByteArray => s.data.toList) ∘ fun l : List UInt8 => (⟨l.toArray⟩ : ByteArray)) = id := by funext l; simp
  rw [e, List.map_id]
  cases allOf wordOp (splitGo 32 [] s.data.toList) <;> rfl
theorem pAt_none {ws : List ByteArray} {R : Option (List Od)} {acc : List Od} {k : Nat} (h : PAt ws R acc k) (hk : k < ws.length) (hn : wordOp ws[k].data.toList = none) : R = none := by
  unfold PAt at h
  rw [List.drop_eq_getElem_cons hk, List.map_cons, allOf_cons, hn] at h
  exact h.symm
theorem pAt_some {ws : List ByteArray} {R : Option (List Od)} {acc : List Od} {k : Nat} {o : Od} (h : PAt ws R acc k) (hk : k < ws.length) (hn : wordOp ws[k].data.toList = some o) : PAt ws R (acc ++ [o]) (k + 1) := by
  unfold PAt at h ⊢
  rw [List.drop_eq_getElem_cons hk, List.map_cons, allOf_cons, hn] at h
  rw [← h]
  cases allOf wordOp ((ws.drop (k + 1)).map fun s => s.data.toList) with
  | none => rfl
  | some m => simp
theorem pAt_end {ws : List ByteArray} {R : Option (List Od)} {acc : List Od} {k : Nat} (h : PAt ws R acc k) (hk : ws.length ≤ k) : R = some acc := by
  unfold PAt at h
  rw [List.drop_eq_nil_of_le hk] at h
  rw [← h]
  simp [allOf]
theorem words_count (by_ : UInt8) (l cur : List UInt8) : (splitGo by_ cur l).length ≤ l.length + 1 := by
  induction l generalizing cur with
  | nil => simp [splitGo]
  | cons c l ih =>
    rw [splitGo]
    split
    · have := ih []; simp; omega
    · have := ih (cur ++ [c]); simp; omega
theorem wordsOf_length (b : UInt8) (s : ByteArray) : (wordsOf b s).length ≤ s.size + 1 := by
  have := words_count b s.data.toList []
  rw [size_len] at this
  simpa [wordsOf] using this
theorem words_size (by_ : UInt8) (l cur : List UInt8) : ∀ w ∈ splitGo by_ cur l, w.length ≤ cur.length + l.length := by
  induction l generalizing cur with
  | nil => simp [splitGo]
  | cons c l ih =>
    rw [splitGo]
    split
    · intro w hw
      rcases List.mem_cons.1 hw with rfl | hw
      · omega
      · have := ih [] w hw; simp at this ⊢; omega
    · intro w hw
      have := ih (cur ++ [c]) w hw; simp at this ⊢; omega
theorem wordsOf_size (b : UInt8) (s : ByteArray) : ∀ x ∈ wordsOf b s, x.size ≤ s.size := by
  intro x hx
  obtain ⟨w, hw, rfl⟩ := List.mem_map.1 hx
  have := words_size b s.data.toList [] w hw
  rw [ba_size, ← size_len s]
  simpa using this
theorem wordOp_size {l : List UInt8} {o : Od} (h : wordOp l = some o) : o.2.1.size ≤ l.length := by
  have ht := (word_text l o h).1
  rw [← ht, odText]
  have := size_len o.2.1
  split
  · simp only [List.length_append, List.length_cons]; omega
  · split
    · simp only [List.length_cons]; omega
    · simp only [List.length_append, List.length_cons]; omega

theorem own_ne {w : World} {b1 b2 g n c n' c' : Nat} {l : List Od} {ss : List ByteArray} (h : OwnO w b1 g n c l) (h2 : OwnS w b2 g n' c' ss) : False := by
  obtain ⟨_, _, cur, e⟩ := h2.cases
  rcases h.2.2.2 with ⟨h', _⟩ | ⟨g', cap', cur', h', _, hg, _⟩
  · simp at h'
  · simp only [Value.slice.injEq, Option.some.injEq, Addr.mk.injEq, and_true, true_and] at h'
    obtain ⟨rfl, rfl⟩ := h'
    rw [hg] at e
    simp at e
set_option maxRecDepth 100000 in
set_option maxHeartbeats 4000000 in
theorem spec_parse (s : ByteArray) (w : World) (hs : s.size ≤ 1099511627776) :
    Calls Try.prog 16 #[.string s] w fun e w' => TPost w (parseOps s.data.toList) e w' := by
  have HP : Hid (∀ R, allOf wordOp (splitGo 32 [] s.data.toList) = R → parseOps s.data.toList = R.bind onlyOk) := by rintro R rfl; rfl
  have hst := pAt_start s
  generalize allOf wordOp (splitGo 32 [] s.data.toList) = R at *
  have HPR := Hid.mk' (HP.out R rfl)
  clear HP
  have hwl := wordsOf_length 32 s
  have hws := wordsOf_size 32 s
  have HSP := fun W => spec_split s 32 32 W rfl hs
  generalize wordsOf 32 s = ws at *
  have HST := Hid.mk' hst
  have HSP := Hid.mk' HSP
  have HWS := Hid.mk' hws
  clear hst hws
  obtain ⟨i0, hif, hz0, hz1, hz2⟩ := info_parts infoO
  go_enter Try.func16, Try.ntmps16
  go_wp2_with fail
  refine (HSP.out _).mono ?_
  rintro e w1 ⟨gw, nw, cw, rfl, hW, hB1⟩
  have hO1 := (ownO_made w w.heap.size (Nat.le_refl _)).below hB1
  have hba : Below w.heap.size w (w.alloc (.cells #[] 53)) := (Below.refl _ _).alloc (Nat.le_refl _) _
  have hB2 := hba.trans (hB1.mono hba.size)
  have hW2 := hW.mono hba.size
  have hnw := hW.1
  clear hB1 hba hW
  go_wp2_with fail
  go_loopw [4, 6] (fun o i wr => ∃ (k g n cp : Nat) (acc : List Od), o = .slice (some ⟨g, 0, none⟩) n cp ∧ i = .int .i64 (k : Int) ∧ k ≤ ws.length ∧ n ≤ k ∧ OwnO wr w.heap.size g n cp acc ∧ OwnS wr w.heap.size gw nw cw ws ∧ Below w.heap.size w wr ∧ PAt ws R acc k ∧ (∀ p ∈ acc, p.2.1.size ≤ 1099511627776)) (fun o i _ => ws.length - (intOf i).toNat)
  case atStart => exact ⟨0, w.heap.size, 0, 0, [], rfl, rfl, by omega, by omega, hO1, hW2, hB2, HST.out, fun p hp => absurd hp List.not_mem_nil⟩
  case round =>
    obtain ⟨k, g, n, cp, acc, rfl, rfl, hk, hnk, hO, hW, hB, hp, hks⟩ := hrel
    clear HST hO1 hB2 hW2
    have HPA := Hid.mk' hp
    have HKS := Hid.mk' hks
    clear hp hks
    by_cases hlt : k < ws.length
    · have hki : (k : Int) < (nw : Int) := by omega
      have hcw := hW.at k hlt
      have hfk := HWS.out _ (List.getElem_mem hlt)
      have hc3 : n + 1 ≤ maxLen := by unfold maxLen; omega
      have hc4 : (n + 1) * 40 ≤ 140737488355328 := by omega
      cases hw : wordOp ws[k].data.toList with
      | none =>
        have HF := Hid.mk' (pAt_none HPA.out hlt hw)
        have HW := fun W => spec_word ws[k] W (by omega)
        rw [hw] at HW
        have HW := Hid.mk' HW
        clear hw
        generalize ws[k] = x at *
        go_wp2_with fail
        refine (HW.out _).mono ?_
        rintro e w2 ⟨o, rfl, _, _, hB2⟩
        have hB3 := hB.trans (hB2.mono hB.size)
        clear hB2 hB hO hW
        have HB4 := Hid.mk' ((hB3.alloc hB3.size (.cells #[.int .i64 o.1, .string o.2.1, .string o.2.2] 53)).alloc (Nat.le_trans hB3.size (by simp)) (.cells #[] 53))
        unfold opAgg
        go_wp2_with fail
        go_ret2
        have hm := ownO_made (w2.alloc (.cells #[.int .i64 o.1, .string o.2.1, .string o.2.2] 53)) w.heap.size (Nat.le_trans hB3.size (by simp))
        rw [World.size_alloc] at hm
        exact tPost_none (r := parseOps s.data.toList) hm HB4.out (by rw [HPR.out, HF.out]; rfl)
      | some o' =>
        have HN := Hid.mk' (pAt_some HPA.out hlt hw)
        have HZ : Hid (o'.2.1.size ≤ 1099511627776) := by show _ ≤ _; have := wordOp_size hw; rw [size_len] at this; omega
        have HW := fun W => spec_word ws[k] W (by omega)
        rw [hw] at HW
        have HW := Hid.mk' HW
        clear hw
        generalize ws[k] = x at *
        go_wp2_with fail
        refine (HW.out _).mono ?_
        rintro e w2 ⟨o, rfl, ho, hsm, hB2⟩
        obtain rfl := ho o' rfl
        clear ho
        have hbx := boxT_new w2 o
        have hba : Below w2.heap.size w2 (w2.alloc (.cells #[.int .i64 o.1, .string o.2.1, .string o.2.2] 53)) := (Below.refl _ _).alloc (Nat.le_refl _) _
        have hbb := hB2.trans (hba.mono hB2.size)
        have hO4 := hO.below hbb
        have hW4 := hW.below hbb
        have hB4 := hB.trans (hbb.mono hB.size)
        have hbw := hB4.size
        clear hO hW hB hB2 hba hbb
        obtain ⟨c0, c1, c2⟩ := hbx.cells
        have hsz : (w2.alloc (.cells #[.int .i64 o.1, .string o.2.1, .string o.2.2] 53)).heap.size = w2.heap.size + 1 := by simp
        have hcl := one_ord_cells (w2.alloc (.cells #[.int .i64 o.1, .string o.2.1, .string o.2.2] 53)) o 53
        rw [hsz] at hcl
        have HCL := Hid.mk' hcl
        clear hcl hsz
        unfold opAgg
        go_wp2_with (at_builtin; refine wpList_append_own _ rfl _ _ 24 rfl w.heap.size 53 i0 (.agg #[.int .i64 0, .string ⟨#[]⟩, .string ⟨#[]⟩]) 3 40 Try.underlying24 hif hz0 hz1 hz2 rfl (by decide) _ _ _ rfl (hO4.2.2.alloc _) ⟨w2.heap.size + 1, 0, none⟩ 1 1 (ordVals [o]) rfl rfl HCL.out (ordVals_oneCell _) hc3 hc4 (le_alloc _ _ hbw) ?_)
        intro v5 w5 hown hgrow hnn
        obtain ⟨g5, cp5, hv, hO5⟩ := ownO_app hO4.1 hO4.2.1 hsm hnn hown
        subst hv
        have hg5 : ((w2.alloc (.cells #[.int .i64 o.1, .string o.2.1, .string o.2.2] 53)).alloc (.cells #[.int .i64 o.1, .string o.2.1, .string o.2.2] 53)).grownBy w5 (some g) := hgrow
        have hgl := hO4.lt
        have hB5 : Below w.heap.size w w5 := (hB4.alloc hbw _).grown hg5 (le_alloc _ _ hbw) (fun k e => by cases e; exact hgl.1)
        have hW5 := (hW4.below ((Below.refl _ _).alloc (Nat.le_refl _) (.cells #[.int .i64 o.1, .string o.2.1, .string o.2.2] 53))).grown hg5 (by intro e; cases e; exact own_ne hO4 hW4)
        have HO5 := Hid.mk' hO5
        have HW5 := Hid.mk' hW5
        clear hown hgrow hnn hO4 hO5 hB4 hW4 hW5 hg5 hgl
        go_wp2_with fail
        go_roundw
        case rel =>
          refine ⟨k + 1, g5, n + 1, cp5, acc ++ [o], rfl, by go_num, by omega, by omega, HO5.out, HW5.out, hB5, HN.out, fun p hp => ?_⟩
          rcases List.mem_append.1 hp with h1 | h1
          · exact HKS.out p h1
          · rcases List.mem_singleton.1 h1 with rfl
            exact HZ.out
        case measure => simp [intOf]; omega
    · have hki : ¬ (k : Int) < (nw : Int) := by omega
      have HR := Hid.mk' (pAt_end HPA.out (by omega))
      have HOK := fun W (h : OwnO W w.heap.size g n cp acc) => spec_opsOk g 0 n cp acc W h.sl HKS.out
      cases hq : opsOk acc
      · rw [hq] at HOK
        have HOK := Hid.mk' HOK
        have HF : Hid (parseOps s.data.toList = none) := by show _ = _; rw [HPR.out, HR.out]; simp [onlyOk, hq]
        clear hq hW
        go_wp2_with fail
        refine (HOK.out _ hO).mono ?_
        rintro e w2 ⟨rfl, hB2⟩
        have hB3 := hB.trans (hB2.mono hB.size)
        clear hB2 hB hO
        go_wp2_with fail
        go_ret2
        exact tPost_none (r := parseOps s.data.toList) (ownO_made _ _ hB3.size) (hB3.alloc hB3.size _) HF.out
      · rw [hq] at HOK
        have HOK := Hid.mk' HOK
        have HF : Hid (parseOps s.data.toList = some acc) := by show _ = _; rw [HPR.out, HR.out]; simp [onlyOk, hq]
        clear hq hW
        go_wp2_with fail
        refine (HOK.out _ hO).mono ?_
        rintro e w2 ⟨rfl, hB2⟩
        have hB3 := hB.trans (hB2.mono hB.size)
        have HO3 := Hid.mk' (hO.below hB2)
        clear hB2 hB hO
        go_wp2_with fail
        go_ret2
        show TPost w (parseOps s.data.toList) _ _
        rw [HF.out]
        exact ⟨g, n, cp, rfl, HO3.out, hB3⟩

end Go.Proofs.Ytefjbpkomphjdaa.txts

namespace Go.Proofs.Ytefjbpkomphjdaa.txts
open Go Go.RowKit Go.Proofs.Ytefjbpkomphjdaa.base Go.Proofs.Ytefjbpkomphjdaa.pairs Go.Proofs.Ytefjbpkomphjdaa.ords
set_option linter.unusedVariables false
set_option linter.unusedSimpArgs false

/-! ### texts joined by a blank, as far as k -/
theorem add_str (a b c : ByteArray) (hc : c = a ++ b) (h : a.size + b.size ≤ 9223372036854775807) (W : World) : (Op.stringOp .add a b).run Try.prog W = .ok (.string c) W := by
  rw [hc]; exact run_string_add_sum W a b h
theorem app_size {a b c : ByteArray} (hc : c = a ++ b) : c.size = a.size + b.size := by rw [hc, ByteArray.size_append]
theorem app_list {a b c : ByteArray} (hc : c = a ++ b) : c.data.toList = a.data.toList ++ b.data.toList := by rw [hc, ByteArray.data_append, Array.toList_append]
end Go.Proofs.Ytefjbpkomphjdaa.txts

namespace Go.Proofs.Ytefjbpkomphjdaa.ords
open Go Go.RowKit Go.Proofs.Ytefjbpkomphjdaa.base Go.Proofs.Ytefjbpkomphjdaa.pairs
set_option linter.unusedVariables false
set_option linter.unusedSimpArgs false

/-! ### orders that rise -/
def riseOB : List Od → Bool
  | [] => true
  | p :: l => (match l.head? with | none => true | some q => ltB p.2.1 q.2.1) && riseOB l
theorem opsFrom_some (k : ByteArray) (l : List Od) : opsFrom (some k) l = ((match l.head? with | none => true | some q => ltB k q.2.1) && l.all odOk && riseOB l) := by
  induction l generalizing k with
  | nil => rfl
  | cons p l ih =>
    simp only [opsFrom, ih, List.head?_cons, List.all_cons, riseOB]
    cases odOk p <;> cases ltB k p.2.1 <;> cases l.all odOk <;> cases riseOB l <;> simp
theorem opsFrom_split (l : List Od) : opsFrom none l = (l.all odOk && riseOB l) := by
  cases l with
  | nil => rfl
  | cons p l =>
    simp only [opsFrom, opsFrom_some, List.all_cons, riseOB]
    cases odOk p <;> cases l.all odOk <;> cases riseOB l <;> simp
theorem riseOB_step (l : List Od) (j : Nat) (h1 : 1 ≤ j) (h : j < l.length) : riseOB (l.drop (j - 1)) = (ltB l[j - 1].2.1 l[j].2.1 && riseOB (l.drop j)) := by
  rw [List.drop_eq_getElem_cons (by omega : j - 1 < l.length), riseOB, show j - 1 + 1 = j by omega, List.head?_drop, List.getElem?_eq_getElem h]
theorem riseOB_end (l : List Od) (j : Nat) (h : l.length ≤ j) : riseOB (l.drop (j - 1)) = true := by
  by_cases h2 : j - 1 < l.length
  · rw [List.drop_eq_getElem_cons h2, riseOB, List.drop_eq_nil_of_le (by omega)]; rfl
  · rw [List.drop_eq_nil_of_le (by omega)]; rfl
theorem all_dropO (l : List Od) (k : Nat) (h : k < l.length) : (l.drop k).all odOk = (odOk l[k] && (l.drop (k + 1)).all odOk) := by
  rw [List.drop_eq_getElem_cons h, List.all_cons]

set_option maxHeartbeats 400000 in
theorem i_keyO (p : Od) (w : World) :
    Calls Try.prog 100 #[.agg #[.int .i64 p.1, .string p.2.1, .string p.2.2]] w fun e w' => e = .returned (.string p.2.1) ∧ w' = w.alloc (.cells #[.int .i64 p.1, .string p.2.1, .string p.2.2] 53) := by
  go_enter Try.func100, Try.ntmps100
  go_wp2
  go_ret
  exact ⟨rfl, rfl⟩
theorem i_methO (z : Int) (x y : ByteArray) (w : World) : (method 235 53 (.agg #[.int .i64 z, .string x, .string y]) "loop.example/g00244/impl.key").run Try.prog w = .ok (100, .agg #[.int .i64 z, .string x, .string y]) w := by kernel_rfl

set_option maxRecDepth 100000 in
set_option maxHeartbeats 1000000 in
theorem i_opOk (o : Od) (w : World) (ho : smallO o) (hs : o.2.1.size ≤ 1099511627776) :
    Calls Try.prog 42 #[.agg #[.int .i64 o.1, .string o.2.1, .string o.2.2]] w fun e w' => e = .returned (.bool (odOk o)) ∧ Below w.heap.size w w' := by
  obtain ⟨z, k, v⟩ := o
  have h2 := ho.2
  simp only [] at h2 hs ⊢
  have hba : Below w.heap.size w (w.alloc (.cells #[.int .i64 z, .string k, .string v] 53)) := (Below.refl _ _).alloc (Nat.le_refl _) _
  have HK := Hid.mk' (impl_keyOk k (w.alloc (.cells #[.int .i64 z, .string k, .string v] 53)) hs)
  have HP := Hid.mk' (impl_pairOk (k, v) (w.alloc (.cells #[.int .i64 z, .string k, .string v] 53)) h2 hs)
  by_cases hz1 : z = 1
  · subst hz1
    have HR : Hid (odOk (1, k, v) = pairOk (k, v)) := by show _ = _; unfold odOk pairOk; simp
    generalize pairOk (k, v) = K at *
    clear HK ho h2 hs
    go_enter Try.func42, Try.ntmps42
    go_wp2_with fail
    refine HP.out.mono ?_
    rintro e w1 ⟨rfl, hb1⟩
    go_wp2_with fail
    go_ret
    exact ⟨ret_bool HR.out.symm, hba.trans (hb1.mono hba.size)⟩
  by_cases hz3 : z = 3
  · subst hz3
    have HR : Hid (odOk (3, k, v) = pairOk (k, v)) := by show _ = _; unfold odOk pairOk; simp
    generalize pairOk (k, v) = K at *
    clear HK ho h2 hs
    go_enter Try.func42, Try.ntmps42
    go_wp2_with fail
    refine HP.out.mono ?_
    rintro e w1 ⟨rfl, hb1⟩
    go_wp2_with fail
    go_ret
    exact ⟨ret_bool HR.out.symm, hba.trans (hb1.mono hba.size)⟩
  have hb1 : (z == 1) = false := beq_eq_false_iff_ne.2 hz1
  have hb3 : (z == 3) = false := beq_eq_false_iff_ne.2 hz3
  by_cases hz2 : z = 2
  · subst hz2
    clear HP hz1 hz3 ho h2 hs hb1 hb3
    by_cases hv : v.size = 0
    · have HR : Hid (odOk (2, k, v) = keyOk k) := by show _ = _; unfold odOk; simp [hv]
      obtain rfl := size_empty hv
      clear hv
      generalize keyOk k = K at *
      cases K
      all_goals
        go_enter Try.func42, Try.ntmps42
        go_wp2_with fail
        refine HK.out.mono ?_
        rintro e w1 ⟨rfl, hb1⟩
        have hc := bcell hb1
        go_wp2_with fail
        go_ret
        exact ⟨ret_bool HR.out.symm, hba.trans (hb1.mono hba.size)⟩
    · have HR : Hid (odOk (2, k, v) = false) := by show _ = _; unfold odOk; simp [hv]
      obtain ⟨hq, hq2⟩ := not_empty hv
      clear hv
      generalize keyOk k = K at *
      cases K
      all_goals
        go_enter Try.func42, Try.ntmps42
        go_wp2_with fail
        refine HK.out.mono ?_
        rintro e w1 ⟨rfl, hb1⟩
        have hc := bcell hb1
        go_wp2_with fail
        go_ret
        exact ⟨ret_bool HR.out.symm, hba.trans (hb1.mono hba.size)⟩
  · have hb2 : (z == 2) = false := beq_eq_false_iff_ne.2 hz2
    have HR : Hid (odOk (z, k, v) = false) := by
      show _ = _
      unfold odOk
      rw [decide_eq_false (by simp only []; omega)]; rfl
    clear HP HK hz1 hz2 hz3 ho h2 hs
    go_enter Try.func42, Try.ntmps42
    go_wp2_with fail
    go_ret
    exact ⟨ret_bool HR.out.symm, hba⟩

set_option maxRecDepth 100000 in
set_option maxHeartbeats 2000000 in
theorem i_risesO (b off cap : Nat) (l : List Od) (w : World) (h : SlO w (some ⟨b, off, none⟩) l.length l) (hsz : l.length ≤ 1099511627776) :
    Calls Try.prog 43 #[.slice (some ⟨b, off, none⟩) l.length cap] w fun e w' => e = .returned (.bool (riseOB l)) ∧ Below w.heap.size w w' := by
  have hmt := i_methO
  generalize hR : riseOB l = R
  have HR := Hid.mk' hR
  clear hR
  go_enter Try.func43, Try.ntmps43
  go_wp2_with fail
  go_loopw [3] (fun i wr => ∃ j : Nat, 1 ≤ j ∧ j ≤ l.length + 1 ∧ i = .int .i64 (j : Int) ∧ riseOB (l.drop (j - 1)) = R ∧ Below w.heap.size w wr) (fun i _ => l.length + 1 - (intOf i).toNat)
  case atStart => exact ⟨1, Nat.le_refl _, by omega, rfl, HR.out, Below.refl _ _⟩
  case round =>
    obtain ⟨j, hj1, hj2, rfl, hr, hB⟩ := hrel
    by_cases hlt : j < l.length
    · have hS := h.below hB
      have hbl := hS.lt (by omega)
      have hst := riseOB_step l j hj1 hlt
      rw [hr] at hst
      obtain ⟨c1, c2, c5⟩ := hS.cells j hlt
      obtain ⟨c3, c4, c6⟩ := hS.cells (j - 1) (by omega)
      have hji : (j : Int) < (l.length : Int) := by omega
      obtain ⟨k, hk⟩ : ∃ k, j - 1 = k := ⟨_, rfl⟩
      have hkw : (j : Int) - 1 = (k : Int) := by omega
      have hki : (k : Int) < (l.length : Int) := by omega
      have hne : Op.bytesLess l[j - 1].2.1.toList l[j].2.1.toList = ltB l[j - 1].2.1 l[j].2.1 := rfl
      generalize l[j] = p at *
      generalize l[j - 1] = q at *
      rw [hk] at c3 c4 c6
      have o1 := last.On.cell c1 hbl
      have o2 := last.On.cell c2 hbl
      have o3 := last.On.cell c3 hbl
      have o4 := last.On.cell c4 hbl
      have o5 := last.On.cell c5 hbl
      have o6 := last.On.cell c6 hbl
      cases hL : ltB q.2.1 p.2.1
      all_goals
        rw [hL] at hst hne
        have HST := Hid.mk' hst
        clear hst hr hL hS hk
        go_wp2_with fail
        have hinh := last.On.inh wr.heap.size wr
        have hc1 : ∀ x : last.On wr.heap.size wr, Calls Try.prog 100 #[.agg #[.int .i64 p.1, .string p.2.1, .string p.2.2]] x.w fun e w' => e = .returned (.string p.2.1) ∧ ∃ y : last.On wr.heap.size wr, w' = y.w := fun x => last.Calls.on x (Nat.le_refl _) ((i_keyO p x.w).mono fun e w' ⟨he, hw⟩ => ⟨he, by rw [hw]; exact (Below.refl _ _).alloc (Nat.le_refl _) _⟩)
        have hc2 : ∀ x : last.On wr.heap.size wr, Calls Try.prog 100 #[.agg #[.int .i64 q.1, .string q.2.1, .string q.2.2]] x.w fun e w' => e = .returned (.string q.2.1) ∧ ∃ y : last.On wr.heap.size wr, w' = y.w := fun x => last.Calls.on x (Nat.le_refl _) ((i_keyO q x.w).mono fun e w' ⟨he, hw⟩ => ⟨he, by rw [hw]; exact (Below.refl _ _).alloc (Nat.le_refl _) _⟩)
        refine last.wp_region_on wr.heap.size (by kernel_rfl) (by kernel_rfl) ?_
        repeat (go_big_quiet_step ((go_at_call 100; first | exact hc1 _ | exact hc2 _)))
        refine wpQuiet_nil ?_
        intro w5 hw5
        obtain ⟨x5, hw5⟩ := hw5
        subst hw5
        have hB5 : Below w.heap.size w x5.w := hB.trans (x5.2.mono hB.size)
        go_wp2_with fail
      · go_ret
        exact ⟨ret_bool (by rw [HST.out]; rfl), hB5⟩
      · go_roundw
        case rel => exact ⟨j + 1, by omega, by omega, by go_num, by rw [HST.out]; simp, hB5⟩
        case measure => simp [intOf]; omega
    · have HF : Hid (R = true) := by show _ = _; rw [← hr]; exact riseOB_end l j (by omega)
      clear hr
      go_wp2_with fail
      go_ret
      exact ⟨ret_bool (by rw [HF.out]), hB⟩

set_option maxRecDepth 100000 in
set_option maxHeartbeats 2000000 in
theorem impl_opsOk (b off len cap : Nat) (l : List Od) (w : World) (h : SlO w (some ⟨b, off, none⟩) len l) (hks : ∀ p ∈ l, p.2.1.size ≤ 1099511627776) :
    Calls Try.prog 17 #[.slice (some ⟨b, off, none⟩) len cap] w fun e w' => e = .returned (.bool (opsOk l)) ∧ Below w.heap.size w w' := by
  have hl := h.1
  have hm := h.2.1
  have hsm := h.2.2.1
  subst hl
  unfold maxLen at hm
  by_cases h1 : l.length < 1
  · go_enter Try.func17, Try.ntmps17
    go_wp2_with fail
    go_ret
    exact ⟨ret_bool (by unfold opsOk; rw [decide_eq_false (by omega : ¬ (1 ≤ l.length ∧ l.length ≤ 8))]; simp), Below.refl _ _⟩
  by_cases h8 : 8 < l.length
  · go_enter Try.func17, Try.ntmps17
    go_wp2_with fail
    go_ret
    exact ⟨ret_bool (by unfold opsOk; rw [decide_eq_false (by omega : ¬ (1 ≤ l.length ∧ l.length ≤ 8))]; simp), Below.refl _ _⟩
  · have HP : Hid (opsOk l = (l.all odOk && riseOB l)) := by show _ = _; unfold opsOk; rw [opsFrom_split, decide_eq_true (by omega : 1 ≤ l.length ∧ l.length ≤ 8)]; simp
    generalize hA : l.all odOk = A
    have HA := Hid.mk' hA
    clear hA
    go_enter Try.func17, Try.ntmps17
    go_wp2_with fail
    go_loopw [15] (fun i wr => ∃ k : Nat, k ≤ l.length ∧ i = .int .i64 (k : Int) ∧ (l.drop k).all odOk = A ∧ Below w.heap.size w wr) (fun i _ => l.length - (intOf i).toNat)
    case atStart => exact ⟨0, Nat.zero_le _, rfl, HA.out, Below.refl _ _⟩
    case round =>
      obtain ⟨k, hk, rfl, hr, hB⟩ := hrel
      by_cases hlt : k < l.length
      · obtain ⟨c1, c2, c3⟩ := (h.below hB).cells k hlt
        have hpk := hsm _ (List.getElem_mem hlt)
        have hks' := hks _ (List.getElem_mem hlt)
        have hki : (k : Int) < (l.length : Int) := by omega
        have hst := all_dropO l k hlt
        rw [hr] at hst
        have hcall := fun wx => i_opOk l[k] wx hpk hks'
        have hBA : Below w.heap.size w (wr.alloc (.cells #[.int .i64 l[k].1, .string l[k].2.1, .string l[k].2.2] 53)) := hB.alloc hB.size _
        generalize l[k] = p at *
        cases hP : odOk p
        all_goals
          rw [hP] at hst hcall
          have HST := Hid.mk' hst
          have HC := Hid.mk' hcall
          clear hst hr hcall hP
          go_wp2_with fail
          refine (HC.out _).mono ?_
          rintro e w3 ⟨rfl, hb3⟩
          have hB3 : Below w.heap.size w w3 := hBA.trans (hb3.mono hBA.size)
          clear hb3 hBA hB c1 c2 c3
          go_wp2_with fail
        · go_ret
          exact ⟨ret_bool (by rw [HP.out, HA.out, HST.out]; rfl), hB3⟩
        · go_roundw
          case rel => exact ⟨k + 1, by omega, by go_num, by rw [HST.out]; simp, hB3⟩
          case measure => simp [intOf]; omega
      · have HF : Hid (A = true) := by show _ = _; rw [← hr, List.drop_eq_nil_of_le (by omega)]; rfl
        have HI := Hid.mk' (i_risesO b off cap l wr (h.below hB) (by omega))
        clear hr
        go_wp2_with fail
        refine HI.out.mono ?_
        rintro e w3 ⟨rfl, hb3⟩
        have hB3 : Below w.heap.size w w3 := hB.trans (hb3.mono hB.size)
        clear hb3
        go_wp2_with fail
        go_ret
        exact ⟨ret_bool (by rw [HP.out, HA.out, HF.out]; simp), hB3⟩

end Go.Proofs.Ytefjbpkomphjdaa.ords

namespace Go.Proofs.Ytefjbpkomphjdaa.txts
open Go Go.RowKit Go.Proofs.Ytefjbpkomphjdaa.base Go.Proofs.Ytefjbpkomphjdaa.pairs Go.Proofs.Ytefjbpkomphjdaa.ords
set_option linter.unusedVariables false
set_option linter.unusedSimpArgs false

/-! ### sign by sign, a blank behind each word -/
def goE : List Od → Option Od → List UInt8 → Option (List Od)
  | acc, _, [] => some acc
  | acc, t, c :: l => if c = 32 then (match t with | none => none | some o => goE (acc ++ [o]) (some init) l) else goE acc (step t c) l
theorem goE_nil (acc : List Od) (t : Option Od) : goE acc t [] = some acc := by cases t <;> rfl
theorem goE_cons (acc : List Od) (t : Option Od) (c : UInt8) (l : List UInt8) : goE acc t (c :: l) = if c = 32 then (match t with | none => none | some o => goE (acc ++ [o]) (some init) l) else goE acc (step t c) l := by cases t <;> rfl
theorem go_goE (l : List UInt8) (acc : List Od) (t : Option Od) : go acc t l = goE acc t (l ++ [32]) := by
  induction l generalizing acc t with
  | nil =>
    rw [go_nil, List.nil_append, goE_cons, if_pos rfl]
    cases t with
    | none => rfl
    | some o => exact (goE_nil _ _).symm
  | cons c l ih =>
    rw [go_cons, List.cons_append, goE_cons]
    by_cases h : c = 32
    · rw [if_pos h, if_pos h]
      cases t with
      | none => rfl
      | some o => exact ih _ _
    · rw [if_neg h, if_neg h]; exact ih _ _
theorem step_high (t : Option Od) (c : UInt8) (h : 128 ≤ c.toNat) : step t c = none := by
  cases t with
  | none => rfl
  | some o =>
    have h1 : ¬ c = 45 := fun e => by subst e; revert h; decide
    have h2 : ¬ c = 61 := fun e => by subst e; revert h; decide
    have h3 : ¬ c = 63 := fun e => by subst e; revert h; decide
    have h4 : ¬ keyCh c.toNat = true := by unfold keyCh; simp; omega
    simp only [step]
    rw [if_neg (fun e => h1 e.1), if_neg (fun e => h2 e.1), if_neg (fun e => h3 e.1), if_neg h4]
theorem goE_skip (l : List UInt8) (k : Nat) (acc : List Od) (hk : k ≤ l.length) (h : ∀ c ∈ l.take k, 128 ≤ c.toNat) : goE acc none l = goE acc none (l.drop k) := by
  induction k generalizing l with
  | zero => rfl
  | succ k ih =>
    cases l with
    | nil => rfl
    | cons c l =>
      have hc := h c (by simp)
      rw [goE_cons, if_neg (fun e => by subst e; revert hc; decide), step_high none c hc, List.drop_succ_cons]
      exact ih l (by simpa using hk) (fun d hd => h d (by simp; exact .inr hd))
theorem goE_high (l : List UInt8) (k : Nat) (acc : List Od) (t : Option Od) (h0 : 0 < k) (hk : k ≤ l.length) (h : ∀ c ∈ l.take k, 128 ≤ c.toNat) : goE acc t l = goE acc none (l.drop k) := by
  cases l with
  | nil => simp at hk; omega
  | cons c l =>
    obtain ⟨j, rfl⟩ : ∃ j, k = j + 1 := ⟨k - 1, by omega⟩
    have hc := h c (by simp)
    rw [goE_cons, if_neg (fun e => by subst e; revert hc; decide), step_high t c hc, List.drop_succ_cons]
    exact goE_skip l j acc (by simpa using hk) (fun d hd => h d (by simp; exact .inr hd))
theorem decode_high (u : ByteArray) (p : Nat) (hp : p < u.size) (hb : 128 ≤ u[p].toNat) :
    128 ≤ (Utf8.decode u p).1 ∧ p + (Utf8.decode u p).2 ≤ u.size ∧ ∀ c ∈ (u.data.toList.drop p).take (Utf8.decode u p).2, 128 ≤ c.toNat := by
  have hg : ∀ i (h : i < u.size), u.get! i = u[i] := fun i h => by simp [ByteArray.get!, getElem!_pos, h]; rfl
  have h0 : (u.get! (p + 0)).toNat = u[p].toNat := congrArg UInt8.toNat (hg p hp)
  have htake : ∀ k, p + k ≤ u.size → (∀ j, j < k → 128 ≤ (u.get! (p + j)).toNat) → ∀ c ∈ (u.data.toList.drop p).take k, 128 ≤ c.toNat := by
    intro k hk hj c hc
    obtain ⟨i, hi, e⟩ := List.getElem_of_mem hc
    simp only [List.length_take, List.length_drop] at hi
    have hik : i < k := by omega
    have := hj i hik
    rw [hg (p + i) (by omega)] at this
    rw [← e]
    simp only [List.getElem_take, List.getElem_drop]
    exact this
  have hb' : ¬ (u.get! (p + 0)).toNat < 128 := by rw [h0]; omega
  unfold Utf8.decode
  simp only [hb', if_false]
  have one : 128 ≤ Utf8.runeError ∧ p + 1 ≤ u.size ∧ ∀ c ∈ (u.data.toList.drop p).take 1, 128 ≤ c.toNat :=
    ⟨by decide, by omega, htake 1 (by omega) (fun j hj => by
      obtain rfl : j = 0 := by omega
      omega)⟩
  split
  · next h1 =>
    simp only [Bool.and_eq_true, decide_eq_true_eq, beq_iff_eq] at h1
    split
    · next h2 =>
      exact ⟨by omega, by omega, htake 2 (by omega) (fun j hj => by
        have : j = 0 ∨ j = 1 := by omega
        rcases this with rfl | rfl <;> omega)⟩
    · exact one
  · split
    · next h1 =>
      simp only [Bool.and_eq_true, decide_eq_true_eq, beq_iff_eq] at h1
      split
      · next h2 =>
        simp only [Bool.and_eq_true, decide_eq_true_eq] at h2
        exact ⟨by omega, by omega, htake 3 (by omega) (fun j hj => by
          have : j = 0 ∨ j = 1 ∨ j = 2 := by omega
          rcases this with rfl | rfl | rfl <;> omega)⟩
      · exact one
    · split
      · next h1 =>
        simp only [Bool.and_eq_true, decide_eq_true_eq, beq_iff_eq] at h1
        split
        · next h2 =>
          simp only [Bool.and_eq_true, decide_eq_true_eq] at h2
          exact ⟨by omega, by omega, htake 4 (by omega) (fun j hj => by
            have : j = 0 ∨ j = 1 ∨ j = 2 ∨ j = 3 := by omega
            rcases this with rfl | rfl | rfl | rfl <;> omega)⟩
        · exact one
      · exact one
def Fit (t : Option Od) : Prop := ∀ o, t = some o → (0 ≤ o.1 ∧ o.1 ≤ 3) ∧ o.2.1.size ≤ 12 ∧ o.2.2.size ≤ 20
theorem fit_init : Fit (some init) := fun o e => by cases e; exact ⟨by decide, by decide, by decide⟩
theorem fit_none : Fit none := fun o e => nomatch e
theorem fit_step {t : Option Od} (c : UInt8) (h : Fit t) : Fit (step t c) := by
  cases t with
  | none => exact fit_none
  | some o =>
    obtain ⟨h1, h2, h3⟩ := h o rfl
    simp only [step]
    intro p hp
    split at hp
    · cases hp; exact ⟨by simp, by show (⟨#[]⟩ : ByteArray).size ≤ 12; decide, by show (⟨#[]⟩ : ByteArray).size ≤ 20; decide⟩
    · split at hp
      · cases hp; exact ⟨by simp, h2, by show (⟨#[]⟩ : ByteArray).size ≤ 20; decide⟩
      · split at hp
        · cases hp; exact ⟨by simp, h2, by show (⟨#[]⟩ : ByteArray).size ≤ 20; decide⟩
        · split at hp
          · split at hp
            · split at hp
              · cases hp
              · next hn => cases hp; exact ⟨h1, h2, by rw [ba_size, List.length_append, size_len]; simp only [List.length_cons, List.length_nil]; omega⟩
            · split at hp
              · cases hp
              · next hn => cases hp; exact ⟨h1, by rw [ba_size, List.length_append, size_len]; simp only [List.length_cons, List.length_nil]; omega, h3⟩
          · cases hp
theorem grown_iter (w : World) (k : Nat) (s : ByteArray) (pos : Nat) : w.grownBy (w.iterAt k s pos) (some k) :=
  ⟨rfl, rfl, rfl, by rw [Lib.iterAt_size]; exact Nat.le_refl _, fun i hi hne => Lib.iterAt_other w k i s pos (fun e => hne (by rw [e]))⟩
theorem iter_own {w : World} {b g n c k pos : Nat} {l : List Od} {u : ByteArray} (h : OwnO w b g n c l) (h2 : w.heap[k]? = some (.stringIter u pos)) : g ≠ k := by
  rintro rfl
  rcases h.2.2.2 with ⟨h', _⟩ | ⟨g', cap', cur', h', _, hg, _⟩
  · simp at h'
  · simp only [Value.slice.injEq, Option.some.injEq, Addr.mk.injEq, and_true, true_and] at h'
    obtain ⟨rfl, rfl⟩ := h'
    rw [hg] at h2
    simp at h2
theorem meth_order (z : Int) (x y : ByteArray) (w : World) : (method 235 59 (.agg #[.int .i64 z, .string x, .string y]) "loop.example/g00244/impl.with").run Try.prog w = .ok (102, .agg #[.int .i64 z, .string x, .string y]) w := by kernel_rfl
theorem meth_none (w : World) : (method 235 130 (.agg #[]) "loop.example/g00244/impl.with").run Try.prog w = .ok (107, .agg #[]) w := by kernel_rfl

end Go.Proofs.Ytefjbpkomphjdaa.txts
