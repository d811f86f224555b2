/- The specification's words as bytes. The specification's orders, read of bytes. -/
import Derived.Test.YtjodbijcgcjndaaBund10aw
import Derived.Test.YtjodbijcgcjndaaBund10at
namespace Go.Proofs.Ytjodbijcgcjndaa.wds
open Go Go.RowKit Go.Proofs.Ytjodbijcgcjndaa.base Go.Proofs.Ytjodbijcgcjndaa.pairs Go.Proofs.Ytjodbijcgcjndaa.ords Go.Proofs.Ytjodbijcgcjndaa.putnum Go.Proofs.Ytjodbijcgcjndaa.puttext Go.Proofs.Ytjodbijcgcjndaa.getnum Go.Proofs.Ytjodbijcgcjndaa.gettext
set_option linter.unusedVariables false
set_option linter.unusedSimpArgs false

/-- a row of bytes behind another -/
theorem own_cat {w' : World} {base n m : Nat} {v' : Value} {bs ns : List UInt8} (hl : bs.length = n) (hln : ns.length = m) (h0 : ¬ v' = .slice none 0 0) (h : w'.ownsRow base 5 1 v' (n + m) (byteVals bs ++ byteVals ns)) :
    ∃ g' cap', v' = .slice (some ⟨g', 0, none⟩) (n + m) cap' ∧ Own w' base g' (n + m) cap' (bs ++ ns) := own_app hl hln rfl h0 h
/-- a box of a word and its cells -/
abbrev HW (X : Nat) (k s t : Int) (v : Value) (y : Bool) (w : World) : Prop := BoxW X k s t v y w ∧ w.cell? ⟨X, 0, none⟩ = some (.int .i64 k) ∧ w.cell? ⟨X, 1, none⟩ = some (.int .i64 s) ∧ w.cell? ⟨X, 2, none⟩ = some (.int .i64 t) ∧ w.cell? ⟨X, 3, none⟩ = some v ∧ w.cell? ⟨X, 4, none⟩ = some (.bool y)
theorem BoxW.hw {X : Nat} {k s t : Int} {v : Value} {y : Bool} {w : World} (h : BoxW X k s t v y w) : BoxW X k s t v y w ∧ w.cell? ⟨X, 0, none⟩ = some (.int .i64 k) ∧ w.cell? ⟨X, 1, none⟩ = some (.int .i64 s) ∧ w.cell? ⟨X, 2, none⟩ = some (.int .i64 t) ∧ w.cell? ⟨X, 3, none⟩ = some v ∧ w.cell? ⟨X, 4, none⟩ = some (.bool y) := ⟨h, h.cells⟩
theorem keepW {X : Nat} {k s t : Int} {v : Value} {y : Bool} {w w' : World} (hb : Below w.heap.size w w') (h : BoxW X k s t v y w ∧ w.cell? ⟨X, 0, none⟩ = some (.int .i64 k) ∧ w.cell? ⟨X, 1, none⟩ = some (.int .i64 s) ∧ w.cell? ⟨X, 2, none⟩ = some (.int .i64 t) ∧ w.cell? ⟨X, 3, none⟩ = some v ∧ w.cell? ⟨X, 4, none⟩ = some (.bool y)) :
    BoxW X k s t v y w' ∧ w'.cell? ⟨X, 0, none⟩ = some (.int .i64 k) ∧ w'.cell? ⟨X, 1, none⟩ = some (.int .i64 s) ∧ w'.cell? ⟨X, 2, none⟩ = some (.int .i64 t) ∧ w'.cell? ⟨X, 3, none⟩ = some v ∧ w'.cell? ⟨X, 4, none⟩ = some (.bool y) := (h.1.below hb).hw
theorem keepWa {X : Nat} {k s t : Int} {v : Value} {y : Bool} {w : World} {o : Obj} (h : BoxW X k s t v y w ∧ w.cell? ⟨X, 0, none⟩ = some (.int .i64 k) ∧ w.cell? ⟨X, 1, none⟩ = some (.int .i64 s) ∧ w.cell? ⟨X, 2, none⟩ = some (.int .i64 t) ∧ w.cell? ⟨X, 3, none⟩ = some v ∧ w.cell? ⟨X, 4, none⟩ = some (.bool y)) :
    BoxW X k s t v y (w.alloc o) ∧ (w.alloc o).cell? ⟨X, 0, none⟩ = some (.int .i64 k) ∧ (w.alloc o).cell? ⟨X, 1, none⟩ = some (.int .i64 s) ∧ (w.alloc o).cell? ⟨X, 2, none⟩ = some (.int .i64 t) ∧ (w.alloc o).cell? ⟨X, 3, none⟩ = some v ∧ (w.alloc o).cell? ⟨X, 4, none⟩ = some (.bool y) := keepW ((Below.refl _ _).alloc (Nat.le_refl _) _) h
theorem ok_ranges {k s t : Int} {l : List Od} {y : Bool} (h : wordOk (k, s, t, l, y) = true) : (1 ≤ k ∧ k ≤ 4) ∧ (0 ≤ s ∧ s ≤ 7) ∧ (1 ≤ t ∧ t ≤ 1000000) := by
  rw [wordOk_iff] at h
  obtain ⟨⟨h1, h2⟩, h3⟩ := h
  refine ⟨?_, h1, h2⟩
  rcases h3 with ⟨h, _⟩ | ⟨h, _⟩ | ⟨h, _⟩ <;> omega

theorem s_bool (y : Bool) (w : World) : Calls Try.prog 46 #[.bool y] w fun e w' => e = .returned (.int .i64 (yesN y)) ∧ w' = w := by
  cases y
  all_goals
    go_enter Try.func46, Try.ntmps46
    go_wp2_with fail
    go_ret
    exact ⟨rfl, rfl⟩

set_option maxRecDepth 100000 in
set_option maxHeartbeats 4000000 in
theorem spec_putWord (k s t : Int) (a : Option Addr) (len cap : Nat) (l : List Od) (y : Bool) (w : World) (h : SlO w a len l) (hks : ∀ p ∈ l, p.2.1.size ≤ 1099511627776) :
    Calls Try.prog 20 #[wdV k s t (.slice a len cap) y] w fun e w' =>
      ∃ g' n' cap', e = .returned (.slice (some ⟨g', 0, none⟩) n' cap') ∧ Own w' w.heap.size g' n' cap' (putWord (k, s, t, l, y)) ∧ Below w.heap.size w w' := by
  obtain ⟨i0, hi, hz0, hz1, hz2⟩ := info_parts info8
  obtain ⟨W, hW⟩ : ∃ W, W = w.alloc (.cells #[.int .i64 k, .int .i64 s, .int .i64 t, .slice a len cap, .bool y] 26) := ⟨_, rfl⟩
  have hba : Below w.heap.size w W := by rw [hW]; exact (Below.refl _ _).alloc (Nat.le_refl _) _
  have hbx : BoxW w.heap.size k s t (.slice a len cap) y W := by rw [hW]; exact boxW_new _ _ _ _ _ _
  have HOK := Hid.mk' (spec_wordOk k s t a len cap l y W (h.below hba) hks)
  have HW := Hid.mk' hW.symm
  clear hW
  cases hok : wordOk (k, s, t, l, y)
  · rw [hok] at HOK
    have HP : Hid (putWord (k, s, t, l, y) = []) := by show _ = _; unfold putWord; rw [hok]; rfl
    clear hok
    go_enter Try.func20, Try.ntmps20
    go_wp2_with (at_builtin; fail)
    rw [HW.out]
    refine HOK.out.mono ?_
    rintro e w1 ⟨rfl, hb1⟩
    have hB1 := hba.trans (hb1.mono hba.size)
    have hO1 := own_made w1 w.heap.size hB1.size
    clear HOK HW hbx
    go_wp2_with (at_builtin; fail)
    go_ret
    exact ⟨_, _, _, rfl, by rw [HP.out]; exact hO1, hB1.alloc hB1.size _⟩
  · rw [hok] at HOK
    have HP : Hid (putWord (k, s, t, l, y) = wordBytes (k, s, t, l, y)) := by show _ = _; unfold putWord; rw [hok]; rfl
    obtain ⟨hkr, hsr, htr⟩ := ok_ranges hok
    have hyr := yesN_range y
    have hkf : (Lit.int .i64 k).wf = true := WalkArith.wf_i64 (by omega)
    have hsf : (Lit.int .i64 s).wf = true := WalkArith.wf_i64 (by omega)
    have htf : (Lit.int .i64 t).wf = true := WalkArith.wf_i64 (by omega)
    have hyf : (Lit.int .i64 (yesN y)).wf = true := WalkArith.wf_i64 (by omega)
    have hnk := numBytes_length k
    have hns := numBytes_length s
    have hnt := numBytes_length t
    have hny := numBytes_length (yesN y)
    have hps := putOps_small l
    have HC : Hid (k = 1 → opsOk l = true) := fun e => by
      rw [wordOk_iff] at hok
      rcases hok.2 with ⟨_, h1, _⟩ | ⟨h1, _⟩ | ⟨h1, _⟩
      · exact h1
      · omega
      · omega
    clear hok hkr hsr htr hyr
    go_enter Try.func20, Try.ntmps20
    go_wp2_with (at_builtin; fail)
    rw [HW.out]
    refine HOK.out.mono ?_
    rintro e w1 ⟨rfl, hb1⟩
    have hB1 := hba.trans (hb1.mono hba.size)
    have hbx1 := hbx.below hb1
    obtain ⟨_, d0, d1, d2, d3, d4⟩ := hbx1.hw
    have hh1 := h.below hB1
    have hx1 := hbx1.hw
    clear HOK HW hbx hb1 hba
    go_wp2_with (at_builtin; fail)
    go_region_held3 (fun w' => BoxW w.heap.size k s t (.slice a len cap) y w' ∧ w'.cell? ⟨w.heap.size, 0, none⟩ = some (.int .i64 k) ∧ w'.cell? ⟨w.heap.size, 1, none⟩ = some (.int .i64 s) ∧ w'.cell? ⟨w.heap.size, 2, none⟩ = some (.int .i64 t) ∧ w'.cell? ⟨w.heap.size, 3, none⟩ = some (.slice a len cap) ∧ w'.cell? ⟨w.heap.size, 4, none⟩ = some (.bool y))
      (first | (exact hx1) | (with_reducible assumption) | (exact keepW hb8 (by assumption)) | (exact keepW hb7 (by assumption)) | (exact keepW hb6 (by assumption)) | (exact keepW hb5 (by assumption)) | (exact keepWa (by assumption)) | (go_keep))
      (first
        | (go_at_call 46; refine (s_bool y _).mono ?_; rintro e w9 ⟨rfl, hw9⟩; replace hw9 := hw9.symm; subst hw9)
        | (go_at_call 45; have h9 := hb7; refine (spec_put g7 0 n7 cp7 ([] ++ numBytes k ++ numBytes s ++ numBytes t) (yesN y) _ hO7.sl hyf (by have := hO7.1; simp at this; omega)).mono ?_; rintro e w8 ⟨g8, n8, cp8, rfl, hO8, hb8⟩)
        | (go_at_call 45; have h9 := hb6; refine (spec_put g6 0 n6 cp6 ([] ++ numBytes k ++ numBytes s) t _ hO6.sl htf (by have := hO6.1; simp at this; omega)).mono ?_; rintro e w7 ⟨g7, n7, cp7, rfl, hO7, hb7⟩)
        | (go_at_call 45; have h9 := hb5; refine (spec_put g5 0 n5 cp5 ([] ++ numBytes k) s _ hO5.sl hsf (by have := hO5.1; simp at this; omega)).mono ?_; rintro e w6 ⟨g6, n6, cp6, rfl, hO6, hb6⟩)
        | (go_at_call 45; refine (spec_put w1.heap.size 0 0 0 [] k _ (sl_nil _ _) hkf (by omega)).mono ?_; rintro e w5 ⟨g5, n5, cp5, rfl, hO5, hb5⟩))
    all_goals
      obtain ⟨hbx8, x0, x1, x2, x3, x4⟩ : BoxW w.heap.size k s t (.slice a len cap) y w8 ∧ w8.cell? ⟨w.heap.size, 0, none⟩ = some (.int .i64 k) ∧ w8.cell? ⟨w.heap.size, 1, none⟩ = some (.int .i64 s) ∧ w8.cell? ⟨w.heap.size, 2, none⟩ = some (.int .i64 t) ∧ w8.cell? ⟨w.heap.size, 3, none⟩ = some (.slice a len cap) ∧ w8.cell? ⟨w.heap.size, 4, none⟩ = some (.bool y) := by assumption
      have hB5 : Below w.heap.size w w5 := (by first | exact (hB1.drew.alloc hB1.size _).trans (hb5.mono (by simp; have := hB1.size; omega)) | exact ((hB1.alloc hB1.size _).drew).trans (hb5.mono (by simp; have := hB1.size; omega)))
      have hB6 : Below w.heap.size w w6 := hB5.trans (hb6.mono hB5.size)
      have hB7 : Below w.heap.size w w7 := hB6.trans (hb7.mono hB6.size)
      have hB8 : Below w.heap.size w w8 := hB7.trans (hb8.mono hB7.size)
      rw [List.nil_append] at hO8
      have hO8' : Own w8 w.heap.size g8 n8 cp8 (headB k s t y) := hO8.mono (base' := w.heap.size) hB7.size
      have hn8 := hO8'.1
      have hhl := headB_length k s t y
      have hh8 := h.below hB8
      clear hb5 hb6 hb7 hb8 hO5 hO6 hO7 hO8 hB5 hB6 hB7 d0 d1 d2 d3 d4 hx1 hbx1
      by_cases hk1 : k = 1
      · have hkb : (k == 1) = true := by rw [hk1]; rfl
        have HBO : Hid (wordBytes (k, s, t, l, y) = headB k s t y ++ putOps l) := by show _ = _; unfold wordBytes; simp only []; rw [if_pos hk1]
        have hopk := HC.out hk1
        obtain ⟨_, hl1, _⟩ := (opsOk_iff l).1 hopk
        obtain ⟨b, off, ha, _⟩ := hh8.2.2.2 (by have := hh8.1; omega)
        subst ha
        have HPO := Hid.mk' (spec_putOps b off len cap l w8 hh8 hks)
        clear hopk HC hl1 hk1
        go_wp2_with (at_builtin; fail)
        refine HPO.out.mono ?_
        rintro e w9 ⟨g9, n9, cp9, rfl, hO9, hb9⟩
        have hO89 := hO8'.below hb9
        have hB9 := hB8.trans (hb9.mono hB8.size)
        have hn9 := hO9.1
        have HSL := Hid.mk' (sl_cells hO9.sl)
        have hl2 : (byteVals (putOps l)).length = n9 * 1 := by rw [byteVals_length]; omega
        have hc3 : n8 + n9 ≤ maxLen := by unfold maxLen; omega
        have hc4 : (n8 + n9) * 1 ≤ 140737488355328 := by omega
        have hbw := hB9.size
        clear HPO hb9 hB8 hO8' hO9
        go_wp2_with (at_builtin; refine wpList_append_own _ rfl (.tmp 25) (.tmp 28) 22 rfl w.heap.size 5 i0 (.int .u8 0) 1 1 Try.underlying22 hi hz0 hz1 hz2 rfl (by decide) _ _ _ rfl hO89.2 ⟨g9, 0, none⟩ n9 cp9 (byteVals (putOps l)) rfl hl2 HSL.out (byteVals_oneCell _) hc3 hc4 hbw ?_)
        intro v8 wb hown8 hgrow8 hnn8
        have hnn' : ¬ v8 = .slice none 0 0 := by simpa using hnn8
        obtain ⟨gb, cpb, hv8, hOb⟩ := own_cat hO89.1 hn9 hnn' hown8
        subst hv8
        have hBb : Below w.heap.size w wb := hB9.grown hgrow8 hbw (fun j e => by simp [Value.ownBlock] at e; have := hO89.lt; omega)
        rw [← HBO.out, ← HP.out] at hOb
        have HOb := Hid.mk' hOb
        clear hown8 hgrow8 hnn8 hnn' HSL hO89 hB9 hOb x0 x1 x2 x3 x4 HBO
        go_wp2_with (at_builtin; fail)
        go_ret
        exact ⟨_, _, _, rfl, HOb.out, hBb⟩
      · have hkb : (k == 1) = false := beq_eq_false_iff_ne.2 hk1
        have HBO : Hid (wordBytes (k, s, t, l, y) = headB k s t y) := by show _ = _; unfold wordBytes; simp only []; rw [if_neg hk1, List.append_nil]
        rw [← HBO.out, ← HP.out] at hO8'
        have HOb := Hid.mk' hO8'
        clear HC hk1 hO8'
        go_wp2_with (at_builtin; fail)
        go_ret
        exact ⟨_, _, _, rfl, HOb.out, hB8⟩
end Go.Proofs.Ytjodbijcgcjndaa.wds

namespace Go.Proofs.Ytjodbijcgcjndaa.ords
open Go Go.RowKit Go.Proofs.Ytjodbijcgcjndaa.base Go.Proofs.Ytjodbijcgcjndaa.pairs Go.Proofs.Ytjodbijcgcjndaa.putnum Go.Proofs.Ytjodbijcgcjndaa.puttext Go.Proofs.Ytjodbijcgcjndaa.getnum Go.Proofs.Ytjodbijcgcjndaa.gettext Go.Proofs.Ytjodbijcgcjndaa.gettexts
set_option linter.unusedVariables false
set_option linter.unusedSimpArgs false

def GetPost (w : World) (r : Option (List Od)) (e : Ending) (w' : World) : Prop :=
  ∃ g n cp, e = .returned (.tuple #[.slice (some ⟨g, 0, none⟩) n cp, .bool r.isSome]) ∧ OwnO w' w.heap.size g n cp (r.getD []) ∧ Below w.heap.size w w'
theorem getPost_none {w w' : World} {g : Nat} (h : OwnO w' w.heap.size g 0 0 []) (hb : Below w.heap.size w w') {r : Option (List Od)} (hr : r = none) : GetPost w r (.returned (.tuple #[.slice (some ⟨g, 0, none⟩) 0 0, .bool false])) w' := by
  subst hr; exact ⟨g, 0, 0, rfl, h, hb⟩
theorem getOp_none1 {bs : List UInt8} {p : Nat} (h : getNum bs (p : Int) = none) : getOp bs p = none := by unfold getOp; rw [h]
theorem getOp_none2 {bs : List UInt8} {p z a : Nat} (h : getNum bs (p : Int) = some (z, a)) (h2 : getText bs ((p + a : Nat) : Int) = none) : getOp bs p = none := by unfold getOp; rw [h]; simp only []; rw [h2]
theorem getOp_none3 {bs : List UInt8} {p z a b : Nat} {key : ByteArray} (h : getNum bs (p : Int) = some (z, a)) (h2 : getText bs ((p + a : Nat) : Int) = some (key, b)) (h3 : getText bs ((p + a + b : Nat) : Int) = none) : getOp bs p = none := by unfold getOp; rw [h]; simp only []; rw [h2]; simp only []; rw [h3]
theorem getOp_some3 {bs : List UInt8} {p z a b c : Nat} {key val : ByteArray} (h : getNum bs (p : Int) = some (z, a)) (h2 : getText bs ((p + a : Nat) : Int) = some (key, b)) (h3 : getText bs ((p + a + b : Nat) : Int) = some (val, c)) : getOp bs p = some (((z : Int), key, val), p + a + b + c) := by unfold getOp; rw [h]; simp only []; rw [h2]; simp only []; rw [h3]
/-- GetText at any place answers something -/
theorem some_text (a : Option Addr) (len cap : Nat) (at_ : Int) (bs : List UInt8) (w : World) (h : Sl w a len bs) (hcap : len ≤ cap) (hat : (Lit.int .i64 at_).wf = true) (hsz : len ≤ 1099511627776) :
    Calls Try.prog 60 #[.slice a len cap, .int .i64 at_] w fun e w' => ∃ (s : ByteArray) (r : Nat) (ok : Bool), r ≤ 1099511627776 ∧ e = .returned (.tuple #[.string s, .int .i64 (r : Int), .bool ok]) ∧ w' = w := by
  refine (gettext.spec_text a len cap at_ bs w h hcap hat).mono ?_
  rintro e w' ⟨rfl, rfl⟩
  have hl := h.1
  cases hT : getText bs at_ with
  | none => exact ⟨_, 0, _, by omega, rfl, rfl⟩
  | some x =>
    obtain ⟨s, k⟩ := x
    have h0 : 0 ≤ at_ := by
      unfold getText at hT
      split at hT
      · cases hT
      · next hn => exact (getNum_some hn).1
    obtain ⟨A, rfl⟩ := Int.eq_ofNat_of_zero_le h0
    have := getText_some hT
    exact ⟨s, A + k, true, by omega, by simp [textRet], rfl⟩

set_option maxRecDepth 100000 in
set_option maxHeartbeats 4000000 in
theorem spec_getOps (a : Option Addr) (len cap : Nat) (bs : List UInt8) (w : World) (h : Sl w a len bs) (hcap : len ≤ cap) (hsz : len ≤ 1099511627776) :
    Calls Try.prog 38 #[.slice a len cap] w fun e w' => GetPost w (getOps bs) e w' := by
  have hl := h.1
  have hm := h.2.1
  unfold maxLen at hm
  have hba : Below w.heap.size w (w.alloc (.cells #[] 90)) := (Below.refl _ _).alloc (Nat.le_refl _) _
  have hON := ownO_made w w.heap.size (Nat.le_refl _)
  have HG := Hid.mk' (spec_get a len cap 0 bs _ (h.below hba) (by rfl))
  rcases hG : getNum bs 0 with _ | ⟨n, k⟩
  · have HF : Hid (getOps bs = none) := by show _ = _; unfold getOps; rw [hG]
    rw [hG, numRet] at HG
    clear hG
    go_enter Try.func38, Try.ntmps38
    go_wp2_with fail
    refine HG.out.mono ?_
    rintro e w1 ⟨rfl, rfl⟩
    go_wp2_with fail
    go_ret2
    exact getPost_none hON hba HF.out
  · obtain ⟨h0, hk1, hk5, hle, hn9⟩ := getNum_some hG
    simp only [Int.toNat_zero, Nat.zero_add] at hle
    rw [hG, numRet] at HG
    simp only [Int.zero_add] at HG
    by_cases hbig : 8 < n
    · have HF : Hid (getOps bs = none) := by show _ = _; unfold getOps; rw [hG]; simp only []; rw [if_pos hbig]
      clear hG
      go_enter Try.func38, Try.ntmps38
      go_wp2_with fail
      refine HG.out.mono ?_
      rintro e w1 ⟨rfl, rfl⟩
      go_wp2_with fail
      go_ret2
      exact getPost_none hON hba HF.out
    · have HRES : Hid (getOps bs = match readOps bs n k [] with | none => none | some (l, p) => if p = bs.length ∧ opsOk l = true then some l else none) := by show _ = _; unfold getOps; rw [hG]; simp only []; rw [if_neg hbig]; rfl
      clear hG
      generalize hR : readOps bs n k [] = R at *
      have HR := Hid.mk' hR
      clear hR
      obtain ⟨i0, hi, hz0, hz1, hz2⟩ := info_parts infoO
      go_enter Try.func38, Try.ntmps38
      go_wp2_with fail
      refine HG.out.mono ?_
      rintro e w1 ⟨rfl, rfl⟩
      clear HG
      have hba2 := hba.alloc (le_alloc _ _ (Nat.le_refl _)) (.cells #[] 90)
      have hON2 : OwnO ((w.alloc (.cells #[] 90)).alloc (.cells #[] 90)) w.heap.size w.heap.size 0 0 [] := hON.below ((Below.refl _ _).alloc (Nat.le_refl _) _)
      have hOut := ownO_made (w.alloc (.cells #[] 90)) (w.heap.size + 1) (by simp)
      have hsz1 : (w.alloc (.cells #[] 90)).heap.size = w.heap.size + 1 := by simp
      rw [hsz1] at hOut
      go_wp2_with fail
      go_loopw [6, 8, 9] (fun pv lv iv wr => ∃ (j p g' cp : Nat) (acc : List Od), pv = .int .i64 (p : Int) ∧ lv = .slice (some ⟨g', 0, none⟩) j cp ∧ iv = .int .i64 (j : Int) ∧ j ≤ n ∧ p ≤ bs.length ∧ (∀ o ∈ acc, o.2.1.size ≤ bs.length) ∧ OwnO wr w.heap.size w.heap.size 0 0 [] ∧ OwnO wr (w.heap.size + 1) g' j cp acc ∧ Below w.heap.size w wr ∧ readOps bs (n - j) p acc = R) (fun _ _ iv _ => n - (intOf iv).toNat)
      case atStart => exact ⟨0, k, w.heap.size + 1, 0, [], by go_num, rfl, rfl, Nat.zero_le _, hle, fun o ho => absurd ho List.not_mem_nil, hON2, hOut, hba2, by simpa using HR.out⟩
      case round =>
        clear hON2 hOut hba2 hba hON HR
        obtain ⟨j, p, g', cp, acc, rfl, rfl, rfl, hj, hp, hacc, hN, hO, hB, hr⟩ := hrel
        have hS := h.below hB
        have hwf : (Lit.int .i64 (p : Int)).wf = true := WalkArith.wf_i64 (by omega)
        by_cases hlt : j < n
        · have hji : (j : Int) < (n : Int) := by omega
          have hrd : readOps bs (n - j) p acc = match getOp bs p with | none => none | some (o, q) => readOps bs (n - (j + 1)) q (acc ++ [o]) := by
            rw [show n - j = (n - (j + 1)) + 1 by omega, readOps]; rfl
          rw [hr] at hrd
          have HG := Hid.mk' (spec_get a len cap (p : Int) bs wr hS hwf)
          have HTX : Hid (∀ r : Nat, r ≤ 1099511627776 → Calls Try.prog 60 #[.slice a len cap, .int .i64 (r : Int)] wr fun e w' => ∃ (s : ByteArray) (r : Nat) (ok : Bool), r ≤ 1099511627776 ∧ e = .returned (.tuple #[.string s, .int .i64 (r : Int), .bool ok]) ∧ w' = wr) := fun r hr => some_text a len cap (r : Int) bs wr hS hcap (WalkArith.wf_i64 (by omega)) hsz
          rcases hG : getNum bs (p : Int) with _ | ⟨z, ka⟩
          · have HF : Hid (getOps bs = none) := by show _ = _; rw [HRES.out, hrd, getOp_none1 hG]
            rw [hG, numRet] at HG
            have HT0 := Hid.mk' (HTX.out 0 (by omega))
            clear hG hrd hr hS
            go_wp2_with fail
            refine HG.out.mono ?_
            rintro e w2 ⟨rfl, hw2⟩
            subst hw2
            go_wp2_with fail
            refine HT0.out.mono ?_
            rintro e w2 ⟨s1, r1, ok1, hr1, rfl, hw2⟩
            subst hw2
            go_wp2_with fail
            refine (HTX.out r1 hr1).mono ?_
            rintro e w2 ⟨s2, r2, ok2, hr2, rfl, hw2⟩
            subst hw2
            go_wp2_with fail
            go_ret2
            exact getPost_none hN hB HF.out
          · have hgs := getNum_some hG
            simp only [Int.toNat_natCast] at hgs
            rw [hG, numRet] at HG
            rw [show (p : Int) + (ka : Int) = ((p + ka : Nat) : Int) by omega] at HG
            have HT1 := Hid.mk' (gettext.spec_text a len cap ((p + ka : Nat) : Int) bs wr hS hcap (WalkArith.wf_i64 (by omega)))
            rcases hT : getText bs ((p + ka : Nat) : Int) with _ | ⟨key, kb⟩
            · have HF : Hid (getOps bs = none) := by show _ = _; rw [HRES.out, hrd, getOp_none2 hG hT]
              rw [hT, textRet] at HT1
              have HT0 := Hid.mk' (HTX.out 0 (by omega))
              generalize p + ka = q at *
              clear hG hT hrd hr hS
              go_wp2_with fail
              refine HG.out.mono ?_
              rintro e w2 ⟨rfl, hw2⟩
              subst hw2
              go_wp2_with fail
              refine HT1.out.mono ?_
              rintro e w2 ⟨rfl, hw2⟩
              subst hw2
              go_wp2_with fail
              refine HT0.out.mono ?_
              rintro e w2 ⟨s1, r1, ok1, hr1, rfl, hw2⟩
              subst hw2
              go_wp2_with fail
              go_ret2
              exact getPost_none hN hB HF.out
            · have hts := getText_some hT
              rw [hT, textRet] at HT1
              rw [show ((p + ka : Nat) : Int) + (kb : Int) = ((p + ka + kb : Nat) : Int) by omega] at HT1
              have HT2 := Hid.mk' (gettext.spec_text a len cap ((p + ka + kb : Nat) : Int) bs wr hS hcap (WalkArith.wf_i64 (by omega)))
              rcases hT2 : getText bs ((p + ka + kb : Nat) : Int) with _ | ⟨val, kc⟩
              · have HF : Hid (getOps bs = none) := by show _ = _; rw [HRES.out, hrd, getOp_none3 hG hT hT2]
                rw [hT2, textRet] at HT2
                generalize p + ka + kb = r at *
                generalize p + ka = q at *
                clear hG hT hT2 hrd hr hS
                go_wp2_with fail
                refine HG.out.mono ?_
                rintro e w2 ⟨rfl, hw2⟩
                subst hw2
                go_wp2_with fail
                refine HT1.out.mono ?_
                rintro e w2 ⟨rfl, hw2⟩
                subst hw2
                go_wp2_with fail
                refine HT2.out.mono ?_
                rintro e w2 ⟨rfl, hw2⟩
                subst hw2
                go_wp2_with fail
                go_ret2
                exact getPost_none hN hB HF.out
              · have hts2 := getText_some hT2
                rw [hT2, textRet] at HT2
                rw [show ((p + ka + kb : Nat) : Int) + (kc : Int) = ((p + ka + kb + kc : Nat) : Int) by omega] at HT2
                have HNX : Hid (readOps bs (n - (j + 1)) (p + ka + kb + kc) (acc ++ [((z : Int), key, val)]) = R) := by show _ = _; rw [hrd, getOp_some3 hG hT hT2]
                have hqq : p + ka + kb + kc ≤ bs.length := hts2.1
                have hsmO : smallO ((z : Int), key, val) := ⟨WalkArith.wf_i64 (by omega), by unfold maxLen; show key.size ≤ _; omega, by unfold maxLen; show val.size ≤ _; omega⟩
                have hc3 : j + 1 ≤ maxLen := by unfold maxLen; omega
                have hc4 : (j + 1) * 40 ≤ 140737488355328 := by omega
                have hbw : w.heap.size + 1 ≤ wr.heap.size := by have := hO.lt; omega
                have hbw0 := hB.size
                have hgl := hO.lt
                have hacc2 : ∀ o ∈ acc ++ [((z : Int), key, val)], o.2.1.size ≤ bs.length := by
                  intro o ho
                  rcases List.mem_append.1 ho with h1 | h1
                  · exact hacc o h1
                  · simp at h1; subst h1; exact hts.2
                generalize p + ka + kb + kc = s at *
                generalize p + ka + kb = r at *
                generalize p + ka = q at *
                clear hG hT hT2 hrd hr hS hgs hts hts2
                go_wp2_with fail
                refine HG.out.mono ?_
                rintro e w2 ⟨rfl, hw2⟩
                subst hw2
                go_wp2_with fail
                refine HT1.out.mono ?_
                rintro e w2 ⟨rfl, hw2⟩
                subst hw2
                go_wp2_with fail
                refine HT2.out.mono ?_
                rintro e w2 ⟨rfl, hw2⟩
                subst hw2
                go_wp2_with (at_builtin; refine wpList_append_own _ rfl _ _ 24 rfl (w.heap.size + 1) 90 i0 (.agg #[.int .i64 0, .string ⟨#[]⟩, .string ⟨#[]⟩]) 3 40 Try.underlying24 hi hz0 hz1 hz2 rfl (by decide) _ _ _ rfl (hO.2.2.alloc _) ⟨w2.heap.size, 0, none⟩ 1 1 (ordVals [((z : Int), key, val)]) rfl rfl (one_ord_cells _ _ _) (ordVals_oneCell _) hc3 hc4 (le_alloc _ _ hbw) ?_)
                intro v3 w3 hown hgrow hnn
                obtain ⟨g2, cp2, hv, hO2⟩ := ownO_app hO.1 hO.2.1 hsmO hnn hown
                subst hv
                have hB2 : Below w.heap.size w w3 := (hB.alloc hbw0 _).grown hgrow (le_alloc _ _ hbw0) (fun k e => by simp [Value.ownBlock] at e; omega)
                have hNa := hN.below ((Below.refl _ w2).alloc (Nat.le_refl _) (.cells #[.int .i64 z, .string key, .string val] 90))
                have hN2 := hNa.grown hgrow (by simp [Value.ownBlock]; omega)
                have HO2 := Hid.mk' hO2
                clear hown hgrow hnn hO2 hO hB hN hNa
                go_wp2_with fail
                go_roundw
                case rel => exact ⟨j + 1, s, g2, cp2, acc ++ [((z : Int), key, val)], by go_num, rfl, by go_num, by omega, hqq, hacc2, hN2, HO2.out, hB2, HNX.out⟩
                case measure => simp [intOf]; omega
        · have hjn : j = n := by omega
          have hR2 : R = some (acc, p) := by rw [← hr, hjn, Nat.sub_self, readOps]
          have hbO := hO.cases
          by_cases hpl : p = bs.length
          · have HOK := Hid.mk' (spec_opsOk g' 0 j cp acc wr hO.sl (fun o ho => Nat.le_trans (hacc o ho) (by omega)))
            have hpe : p = len := by omega
            cases hok : opsOk acc
            · rw [hok] at HOK
              have HF : Hid (getOps bs = none) := by show _ = _; rw [HRES.out, hR2]; simp [hok]
              clear hok hR2 hr hpl hjn
              subst hpe
              go_wp2_with fail
              refine HOK.out.mono ?_
              rintro e w2 ⟨rfl, hb2⟩
              have hN2 := hN.below hb2
              have hB2 := hB.trans (hb2.mono hB.size)
              go_wp2_with fail
              go_ret2
              exact getPost_none hN2 hB2 HF.out
            · rw [hok] at HOK
              have HF : Hid (getOps bs = some acc) := by show _ = _; rw [HRES.out, hR2]; simp [hok, hpl]
              clear hok hR2 hr hpl hjn
              subst hpe
              go_wp2_with fail
              refine HOK.out.mono ?_
              rintro e w2 ⟨rfl, hb2⟩
              have hO2 := hO.below hb2
              have hB2 := hB.trans (hb2.mono hB.size)
              go_wp2_with fail
              go_ret2
              rw [HF.out]
              exact ⟨g', j, cp, rfl, hO2.mono (by omega), hB2⟩
          · have hpb : ¬ (p : Int) = (len : Int) := by omega
            have HF : Hid (getOps bs = none) := by show _ = _; rw [HRES.out, hR2]; simp [hpl]
            clear hR2 hr hpl hjn
            go_wp2_with fail
            go_ret2
            exact getPost_none hN hB HF.out
end Go.Proofs.Ytjodbijcgcjndaa.ords
