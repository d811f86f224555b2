/- The statement FnBetweenSaid: at every slice of bytes FnBetween answers true, and the slice reads afterwards as before. No condition besides the row's own. -/
import Derived.Test.YtblgkcgmnmligaaRows
import Derived.Test.YtblgkcgmnmligaaBig
import Derived.Test.YtblgkcgmnmligaaPairLaw
import Derived.Test.YtblgkcgmnmligaaPairU
import Derived.Test.YtblgkcgmnmligaaDrawQ
import Derived.Test.YtblgkcgmnmligaaHelpQ
import Derived.Test.YtblgkcgmnmligaaPairI
import Derived.ProofKit
import Derived.OpenShut
import Derived.ShutString
import Derived.ChangeOld
import Derived.Below
namespace Go.Proofs.Ytblgkcgmnmligaa.fnBetween
open Go.ChangeShapes Go.WideShapes Go.ChangeAt Go.RowKit
open Go.ChangeMaps (open_string shut_string)
set_option linter.unusedVariables false
open Go.Proofs.Ytblgkcgmnmligaa.base Go.Proofs.Ytblgkcgmnmligaa.pairs

/-- an append behind a guard that is held -/
theorem wpList_append_held {P : Program} (w : World) {ops : Array Oper} {rest : List Oper} {o : Oper} {a : Act} {Q : Exit → Act → World → Prop} (hgd : Region.wanted o (yielded ops a.tmps) = true) (s x : Operand) (t : TypeId)
    (ho : o.op = .call { callee := .builtin .append, args := #[s, x], argTypes := #[t, t] })
    (base : Nat) (e : TypeId) (i : TypeInfo) (z : Value) (size bytes : Nat) (ht : P.underlying t = some (.slice e)) (hi : P.info? e = some i) (hz : i.zero = some z)
    (hsize : i.size = size) (hby : i.bytes = bytes) (hzs : z.cells.size = size) (hsz : 0 < size)
    (v : Value) (n : Nat) (xs : List Value) (hs : a.eval s = v) (hown : w.ownsRow base e size v n xs)
    (ad : Addr) (m c : Nat) (news : List Value) (hx : a.eval x = .slice (some ad) m c) (hl : news.length = m * size) (hnews : ∀ j u, news[j]? = some u → w.cell? (ad.add j) = some u) (h1 : ∀ u ∈ news, u.oneCell' = true)
    (h63 : n + m ≤ maxLen) (hbytes : (n + m) * bytes ≤ 140737488355328) (hbase : base ≤ w.heap.size)
    (h : ∀ v' w', w'.ownsRow base e size v' (n + m) (xs ++ news) → w.grownBy w' v.ownBlock → (v' = .slice none 0 0 ↔ v = .slice none 0 0 ∧ m = 0) → wpList P ops Q rest (a.put o.dst v') w') : wpList P ops Q (o :: rest) a w :=
  wpList_step fun K hK => by
    rw [if_pos hgd]
    exact wp_append_own w s x t ho base e i z size bytes ht hi hz hsize hby hzs hsz v n xs hs hown ad m c news hx hl hnews h1 h63 hbytes hbase (fun v' w' h2 h3 h4 => hK _ _ (h v' w' h2 h3 h4))

set_option maxRecDepth 100000 in
set_option maxHeartbeats 4000000 in
theorem walk (a0 : Option Addr) (len0 cap0 : Nat) (b0 : List UInt8) (w : World) (w0 : Sl w a0 len0 b0) :
    Calls Try.prog 5 #[.slice a0 len0 cap0] w fun e w' => e = .returned (.bool true) ∧ Below w.heap.size w w' := by
  have hm := w0.2.1
  by_cases hbig : 1048576 < len0
  · have hb := big_ a0 len0 cap0 w hm
    rw [decide_eq_true (by omega)] at hb
    have HB := Hid.mk' hb
    clear hb
    go_enter Try.func5, Try.ntmps5
    go_wp2_with fail
    refine HB.out.mono ?_
    rintro e wa ⟨rfl, rfl⟩
    go_wp2_with fail
    go_ret
    exact ⟨rfl, Below.refl _ _⟩
  · have hb := big_ a0 len0 cap0 w hm
    rw [decide_eq_false (by omega)] at hb
    have HB := Hid.mk' hb
    clear hb
    go_enter Try.func5, Try.ntmps5
    go_wp2_with fail
    refine HB.out.mono ?_
    rintro e wa ⟨rfl, hwa⟩
    subst hwa
    go_wp2_with fail
    obtain ⟨i0, hif, hz0, hz1, hz2⟩ := info_parts infoP
    refine (drawBetween a0 len0 cap0 b0 _ w0 (by omega)).mono ?_
    rintro e w1 ⟨g, n, cp, l, lo, hi, hn, ht, hlo, hhi, rfl, hO1, hB1⟩
    have hks : ∀ p ∈ l, p.1.size ≤ 1099511627776 := fun p hp => Nat.le_trans (ht p hp).1 (by omega)
    have hln := hO1.1
    have hcs := hO1.cases
    go_wp2_with (at_builtin; fail)
    refine (impl_between _ _ _ _ l lo hi _ hO1.sl hcs.1 (by omega)).mono ?_
    rintro e w2 ⟨gb, nb, cpb, rfl, hU2, hB2⟩
    have hO2 := hO1.below hB2
    have hB2' := hB1.trans (hB2.mono hB1.size)
    have hnb := hU2.1
    clear hO1 hB1 hB2
    go_wp2_with (at_builtin; fail)
    refine (spec_between _ _ _ _ l lo hi _ hO2.sl (by omega)).mono ?_
    rintro e w3 ⟨gs, ns, cps, rfl, hS3, hB3⟩
    have hO3 := hO2.below hB3
    have hU3 := hU2.below hB3
    have hB3' := hB2'.trans (hB3.mono hB2'.size)
    clear hO2 hU2 hB3 hB2'
    go_wp2_with (at_builtin; fail)
    refine (samePairs _ _ _ _ _ _ _ _ _ hU3.sl hS3.sl).mono ?_
    rintro e w4 ⟨he, nq, hw4⟩
    rw [decide_eq_true rfl] at he
    subst he hw4
    have hb4 : Below w3.heap.size w3 (w3.drewN nq) := below_drewN (Below.refl _ _) _
    have hO4 := hO3.below hb4
    have hU4 := hU3.below hb4
    have hB4 := below_drewN hB3' nq
    clear hO3 hU3 hS3 hb4 hB3'
    generalize w3.drewN nq = w5 at *
    have hblen : (between lo hi l).length ≤ l.length := List.length_filter_le _ _
    by_cases hz : hi = ⟨#[]⟩
    · subst hz
      have hlen : (between lo ⟨#[]⟩ l).length = (between lo ⟨#[]⟩ l).length + 0 := rfl
      have HS : Hid (pairsOk l = true → between lo ⟨#[]⟩ l = between lo ⟨#[]⟩ l ++ []) := fun _ => by rw [List.append_nil]
      go_wp2_with (at_builtin; fail)
      refine (impl_between _ _ _ _ l lo ⟨#[]⟩ _ hO4.sl hcs.1 (by omega)).mono ?_
      rintro e w6 ⟨ga, na, cpa, rfl, hA6, hB6⟩
      have hO6 := hO4.below hB6
      have hU6 := hU4.below hB6
      have hB6' := hB4.trans (hB6.mono hB4.size)
      have hba : Below w6.heap.size w6 (w6.alloc (.cells #[] 33)) := (Below.refl _ _).alloc (Nat.le_refl _) _
      have hO7 := hO6.below hba
      have hU7 := hU6.below hba
      have hA7 := hA6.below hba
      have hB7 := hB6'.trans (hba.mono hB6'.size)
      have hR7 := ownP_made w6 w6.heap.size (Nat.le_refl _)
      have hrl : ([] : List Pr).length = 0 := rfl
      clear hO4 hU4 hB4 hB6 hO6 hU6 hA6 hB6' hba
      have hna := hA7.1
      have hsum : nb = na := by omega
      subst hsum
      have hbs := hU7.2.1
      have hrs := hR7.2.1
      generalize between lo ⟨#[]⟩ l = al at *

      go_wp2_with (at_builtin; fail)
      refine (impl_between _ _ _ _ l ⟨#[]⟩ ⟨#[]⟩ _ hO7.sl hcs.1 (by omega)).mono ?_
      rintro e w8 ⟨gv, nv, cpv, rfl, hV8, hB8⟩
      have hO8 := hO7.below hB8
      have hU8 := hU7.below hB8
      have hA8 := hA7.below hB8
      have hR8 := hR7.below hB8
      have hB8' := hB7.trans (hB8.mono hB7.size)
      have HAL : Hid (between ⟨#[]⟩ ⟨#[]⟩ l = l) := between_all l
      rw [HAL.out] at hV8
      clear hO7 hU7 hA7 hR7 hB7 hB8
      go_wp2_with (at_builtin; fail)
      refine (samePairs _ _ _ _ _ _ _ _ _ hV8.sl hO8.sl).mono ?_
      rintro e w9 ⟨he, ny, hw9⟩
      rw [decide_eq_true rfl] at he
      subst he hw9
      have hb9 : Below w8.heap.size w8 (w8.drewN ny) := below_drewN (Below.refl _ _) _
      have hO9 := hO8.below hb9
      have hU9 := hU8.below hb9
      have hA9 := hA8.below hb9
      have hR9 := hR8.below hb9
      have hB9 := below_drewN hB8' ny
      clear hO8 hU8 hA8 hR8 hV8 hb9 hB8'
      generalize w8.drewN ny = wq at *
      go_wp2_with (at_builtin; fail)
      refine (spec_pairsOk _ _ _ _ l _ hO9.sl hks).mono ?_
      rintro e wr ⟨he, hBr⟩
      cases hok : pairsOk l
      · rw [hok] at he
        subst he
        go_wp2_with (at_builtin; fail)
        go_ret
        exact ⟨rfl, hB9.trans (hBr.mono hB9.size)⟩
      · rw [hok] at he
        subst he
        have HE : Hid (al = al ++ []) := HS.out hok
        have hUr := hU9.below hBr
        have hAr := hA9.below hBr
        have hRr := hR9.below hBr
        have hBr' := hB9.trans (hBr.mono hB9.size)
        clear hO9 hU9 hA9 hR9 hB9 hBr hok
        have hbs' : Below wr.heap.size wr (wr.alloc (.cells #[] 33)) := (Below.refl _ _).alloc (Nat.le_refl _) _
        have HC := Hid.mk' (cells_pairs (hUr.sl.below hbs').cells)
        have hn0 : (pairVals al).length = nb * 2 := by rw [pairVals_length, hnb]
        have hm1 : 0 + nb ≤ maxLen := by unfold maxLen; omega
        have hm2 : (0 + nb) * 32 ≤ 140737488355328 := by omega
        have hown0 := (ownP_made wr wr.heap.size (Nat.le_refl _)).2.2
        go_wp2_with (at_builtin; refine wpList_append_held _ (by rfl) (.tmp 72) (.tmp 73) 24 rfl wr.heap.size 33 i0 (.agg #[.string ⟨#[]⟩, .string ⟨#[]⟩]) 2 32 Try.underlying24 hif hz0 hz1 hz2 rfl (by decide) _ _ _ rfl hown0 ⟨gb, 0, none⟩ nb cpb (pairVals al) rfl hn0 HC.out (pairVals_oneCell _) hm1 hm2 (le_alloc _ _ (Nat.le_refl _)) ?_)
        intro v1 x1 hown hgrow hnn
        have hnn' : ¬ v1 = .slice none 0 0 := by simpa using hnn
        obtain ⟨g1, cap1, hv, hX1⟩ := ownP_val (n := nb) hnb hbs hnn' (by simpa [pairVals] using hown)
        subst hv
        have hBx : Below wr.heap.size wr x1 := hbs'.grown hgrow (le_alloc _ _ (Nat.le_refl _)) (fun k e => by simp [Value.ownBlock] at e; omega)
        have hRx := hRr.below hBx
        have hBx' := hBr'.trans (hBx.mono hBr'.size)
        have hbx1 : wr.heap.size ≤ x1.heap.size := hBx.size
        clear hown hgrow hnn hnn' hown0 HC hn0 hm1 hm2 hbs' hUr hRr
        have HC2 := Hid.mk' (cells_pairs hRx.sl.cells)
        have hn2 : (pairVals ([] : List Pr)).length = 0 * 2 := by rw [pairVals_length, hrl]
        have hm3 : nb + 0 ≤ maxLen := by unfold maxLen; omega
        have hm4 : (nb + 0) * 32 ≤ 140737488355328 := by omega
        go_wp2_with (at_builtin; refine wpList_append_held _ (by rfl) (.tmp 74) (.tmp 75) 24 rfl wr.heap.size 33 i0 (.agg #[.string ⟨#[]⟩, .string ⟨#[]⟩]) 2 32 Try.underlying24 hif hz0 hz1 hz2 rfl (by decide) _ _ _ rfl hX1.2.2 ⟨w6.heap.size, 0, none⟩ 0 0 (pairVals ([] : List Pr)) rfl hn2 HC2.out (pairVals_oneCell _) hm3 hm4 hbx1 ?_)
        intro v2 x2 hown hgrow hnn
        have hnn' : ¬ v2 = .slice none 0 0 := by simpa using hnn
        rw [← pairVals_append] at hown
        obtain ⟨g2, cap2, hv, hX2⟩ := ownP_val (n := nb + 0) (by rw [List.length_append]; omega) (fun q hq => by
          rcases List.mem_append.1 hq with h1 | h1
          · exact hbs q h1
          · exact hrs q h1) hnn' hown
        subst hv
        have hBw : Below wr.heap.size x1 x2 := (Below.refl _ _).grown hgrow hbx1 (fun k e => by simp [Value.ownBlock] at e; have := hX1.lt; omega)
        have hAz := hAr.sl.below (hBx.trans hBw)
        have hBw' := hBx'.trans (hBw.mono hBr'.size)
        clear hown hgrow hnn hnn' HC2 hn2 hm3 hm4 hX1 hRx hBx'
        go_wp2_with (at_builtin; fail)
        refine (samePairs _ _ _ _ _ _ _ _ _ hAz hX2.sl).mono ?_
        rintro e wf ⟨he, nz, hwf⟩
        rw [decide_eq_true HE.out] at he
        subst he hwf
        go_wp2_with (at_builtin; fail)
        go_ret
        exact ⟨rfl, below_drewN hBw' _⟩
    · have hq : ¬ hi.toList = [] := fun e => hz (bytes_ext (by rw [← ByteArray.toList_eq]; exact e))
      have hq2 : hi.toList.isEmpty = false := by rw [Bool.eq_false_iff]; intro e; exact hq (List.isEmpty_iff.1 e)
      have hsz : hi.size ≠ 0 := fun e => hz (by apply bytes_ext; exact List.eq_nil_of_length_eq_zero (by rw [Array.length_toList]; exact e))
      cases hlt : Op.bytesLess hi.toList lo.toList
      · have hlen := between_len lo hi l hsz hlt
        have HS : Hid (pairsOk l = true → between lo ⟨#[]⟩ l = between lo hi l ++ between hi ⟨#[]⟩ l) := fun hp => between_split lo hi l hsz hlt ((pairsOk_iff l).1 hp).1.2
        have hrle : (between hi ⟨#[]⟩ l).length ≤ l.length := List.length_filter_le _ _
        clear hz hsz
        go_wp2_with (at_builtin; fail)
        refine (impl_between _ _ _ _ l lo ⟨#[]⟩ _ hO4.sl hcs.1 (by omega)).mono ?_
        rintro e w6 ⟨ga, na, cpa, rfl, hA6, hB6⟩
        have hO6 := hO4.below hB6
        have hU6 := hU4.below hB6
        have hB6' := hB4.trans (hB6.mono hB4.size)
        have hba : Below w6.heap.size w6 (w6.alloc (.cells #[] 33)) := (Below.refl _ _).alloc (Nat.le_refl _) _
        have hOy := hO6.below hba
        have hUy := hU6.below hba
        have hAy := hA6.below hba
        have hBy := hB6'.trans (hba.mono hB6'.size)
        clear hO4 hU4 hB4 hB6 hO6 hU6 hA6 hB6' hba
        go_wp2_with (at_builtin; fail)
        refine (impl_between _ _ _ _ l hi ⟨#[]⟩ _ hOy.sl hcs.1 (by omega)).mono ?_
        rintro e w7 ⟨gr, nr, cpr, rfl, hR7, hBz⟩
        have hO7 := hOy.below hBz
        have hU7 := hUy.below hBz
        have hA7 := hAy.below hBz
        have hB7 := hBy.trans (hBz.mono hBy.size)
        have hrl := hR7.1
        clear hOy hUy hAy hBy hBz
        have hna := hA7.1
        have hsum : na = nb + nr := by omega
        subst hsum
        have hbs := hU7.2.1
        have hrs := hR7.2.1
        generalize between lo ⟨#[]⟩ l = al at *
        generalize between lo hi l = bl at *
        generalize between hi ⟨#[]⟩ l = rl at *
        go_wp2_with (at_builtin; fail)
        refine (impl_between _ _ _ _ l ⟨#[]⟩ ⟨#[]⟩ _ hO7.sl hcs.1 (by omega)).mono ?_
        rintro e w8 ⟨gv, nv, cpv, rfl, hV8, hB8⟩
        have hO8 := hO7.below hB8
        have hU8 := hU7.below hB8
        have hA8 := hA7.below hB8
        have hR8 := hR7.below hB8
        have hB8' := hB7.trans (hB8.mono hB7.size)
        have HAL : Hid (between ⟨#[]⟩ ⟨#[]⟩ l = l) := between_all l
        rw [HAL.out] at hV8
        clear hO7 hU7 hA7 hR7 hB7 hB8
        go_wp2_with (at_builtin; fail)
        refine (samePairs _ _ _ _ _ _ _ _ _ hV8.sl hO8.sl).mono ?_
        rintro e w9 ⟨he, ny, hw9⟩
        rw [decide_eq_true rfl] at he
        subst he hw9
        have hb9 : Below w8.heap.size w8 (w8.drewN ny) := below_drewN (Below.refl _ _) _
        have hO9 := hO8.below hb9
        have hU9 := hU8.below hb9
        have hA9 := hA8.below hb9
        have hR9 := hR8.below hb9
        have hB9 := below_drewN hB8' ny
        clear hO8 hU8 hA8 hR8 hV8 hb9 hB8'
        generalize w8.drewN ny = wq at *
        go_wp2_with (at_builtin; fail)
        refine (spec_pairsOk _ _ _ _ l _ hO9.sl hks).mono ?_
        rintro e wr ⟨he, hBr⟩
        cases hok : pairsOk l
        · rw [hok] at he
          subst he
          go_wp2_with (at_builtin; fail)
          go_ret
          exact ⟨rfl, hB9.trans (hBr.mono hB9.size)⟩
        · rw [hok] at he
          subst he
          have HE : Hid (al = bl ++ rl) := HS.out hok
          have hUr := hU9.below hBr
          have hAr := hA9.below hBr
          have hRr := hR9.below hBr
          have hBr' := hB9.trans (hBr.mono hB9.size)
          clear hO9 hU9 hA9 hR9 hB9 hBr hok
          have hbs' : Below wr.heap.size wr (wr.alloc (.cells #[] 33)) := (Below.refl _ _).alloc (Nat.le_refl _) _
          have HC := Hid.mk' (cells_pairs (hUr.sl.below hbs').cells)
          have hn0 : (pairVals bl).length = nb * 2 := by rw [pairVals_length, hnb]
          have hm1 : 0 + nb ≤ maxLen := by unfold maxLen; omega
          have hm2 : (0 + nb) * 32 ≤ 140737488355328 := by omega
          have hown0 := (ownP_made wr wr.heap.size (Nat.le_refl _)).2.2
          go_wp2_with (at_builtin; refine wpList_append_held _ (by rfl) (.tmp 72) (.tmp 73) 24 rfl wr.heap.size 33 i0 (.agg #[.string ⟨#[]⟩, .string ⟨#[]⟩]) 2 32 Try.underlying24 hif hz0 hz1 hz2 rfl (by decide) _ _ _ rfl hown0 ⟨gb, 0, none⟩ nb cpb (pairVals bl) rfl hn0 HC.out (pairVals_oneCell _) hm1 hm2 (le_alloc _ _ (Nat.le_refl _)) ?_)
          intro v1 x1 hown hgrow hnn
          have hnn' : ¬ v1 = .slice none 0 0 := by simpa using hnn
          obtain ⟨g1, cap1, hv, hX1⟩ := ownP_val (n := nb) hnb hbs hnn' (by simpa [pairVals] using hown)
          subst hv
          have hBx : Below wr.heap.size wr x1 := hbs'.grown hgrow (le_alloc _ _ (Nat.le_refl _)) (fun k e => by simp [Value.ownBlock] at e; omega)
          have hRx := hRr.below hBx
          have hBx' := hBr'.trans (hBx.mono hBr'.size)
          have hbx1 : wr.heap.size ≤ x1.heap.size := hBx.size
          clear hown hgrow hnn hnn' hown0 HC hn0 hm1 hm2 hbs' hUr hRr
          have HC2 := Hid.mk' (cells_pairs hRx.sl.cells)
          have hn2 : (pairVals rl).length = nr * 2 := by rw [pairVals_length, hrl]
          have hm3 : nb + nr ≤ maxLen := by unfold maxLen; omega
          have hm4 : (nb + nr) * 32 ≤ 140737488355328 := by omega
          go_wp2_with (at_builtin; refine wpList_append_held _ (by rfl) (.tmp 74) (.tmp 75) 24 rfl wr.heap.size 33 i0 (.agg #[.string ⟨#[]⟩, .string ⟨#[]⟩]) 2 32 Try.underlying24 hif hz0 hz1 hz2 rfl (by decide) _ _ _ rfl hX1.2.2 ⟨gr, 0, none⟩ nr cpr (pairVals rl) rfl hn2 HC2.out (pairVals_oneCell _) hm3 hm4 hbx1 ?_)
          intro v2 x2 hown hgrow hnn
          have hnn' : ¬ v2 = .slice none 0 0 := by simpa using hnn
          rw [← pairVals_append] at hown
          obtain ⟨g2, cap2, hv, hX2⟩ := ownP_val (n := nb + nr) (by rw [List.length_append]; omega) (fun q hq => by
            rcases List.mem_append.1 hq with h1 | h1
            · exact hbs q h1
            · exact hrs q h1) hnn' hown
          subst hv
          have hBw : Below wr.heap.size x1 x2 := (Below.refl _ _).grown hgrow hbx1 (fun k e => by simp [Value.ownBlock] at e; have := hX1.lt; omega)
          have hAz := hAr.sl.below (hBx.trans hBw)
          have hBw' := hBx'.trans (hBw.mono hBr'.size)
          clear hown hgrow hnn hnn' HC2 hn2 hm3 hm4 hX1 hRx hBx'
          go_wp2_with (at_builtin; fail)
          refine (samePairs _ _ _ _ _ _ _ _ _ hAz hX2.sl).mono ?_
          rintro e wf ⟨he, nz, hwf⟩
          rw [HE.out, decide_eq_true rfl] at he
          subst he hwf
          go_wp2_with (at_builtin; fail)
          go_ret
          exact ⟨rfl, below_drewN hBw' _⟩
      · clear hz hsz
        go_wp2_with (at_builtin; fail)
        refine (spec_between _ _ _ _ l lo hi _ hO4.sl (by omega)).mono ?_
        rintro e wx ⟨gx, nx, cpx, rfl, hXx, hBx⟩
        have hUx := hU4.below hBx
        have hBx' := hB4.trans (hBx.mono hB4.size)
        go_wp2_with (at_builtin; fail)
        refine (samePairs _ _ _ _ _ _ _ _ _ hUx.sl hXx.sl).mono ?_
        rintro e wy ⟨he, nz, hwy⟩
        rw [decide_eq_true rfl] at he
        subst he hwy
        go_wp2_with (at_builtin; fail)
        go_ret
        exact ⟨rfl, below_drewN hBx' _⟩

theorem own : ownKnob Try.prog.godebug = none := by kernel_rfl
theorem laidOut : laidOutB Try.prog = true := by kernel_rfl

set_option maxRecDepth 100000 in
theorem lifted (os : Os) (started : os.Started) (H : Type) (enc : TypeId × Value → H) :
    ReturnsInHanded {} Try.checked os 5 .any (Rows.fnBetweenSpec.pre6 enc Try.prog Try.f5 Rows.fnBetweenRow.domain false) (Rows.fnBetweenSpec.post enc Try.prog Try.f5 false true false false) := by
  refine returnsInHanded_of_change (C := Try.checked) own started (by kernel_rfl) Try.func5
    (ChangeSpec.witness6 (enc := enc) (C := Try.checked) false ⟨#[], #[.slice none 0 0], []⟩ 8 (by kernel_rfl) (by kernel_rfl) (by kernel_rfl) (by kernel_rfl)) ?_
  intro W base args ds gs before hval0 hW hcnd _
  have hval : ∀ (j : Nat) t v, Try.f5.params[j]? = some t → args[j]? = some v → Value.okWide Try.prog W .any base t v := hval0
  have hW' := hW
  obtain ⟨p, q, hA0, hV, rfl, hfz, hnd⟩ := hW
  have hA : DataW.TrodAll enc Try.prog W 0 (fun _ => true) true Try.f5.params.toList args.toList ds p := hA0
  rw [Try.params5] at hA hval
  obtain ⟨v0, vs0, d0, ds0, p0, q0, hargs, rfl, rfl, h0, r0⟩ := trodAll_cons hA
  obtain ⟨rfl, rfl, rfl⟩ := trodAll_nil r0
  obtain rfl : args = #[v0] := by cases args; simp_all
  obtain ⟨rfl, rfl⟩ := trodVars_none hV
  obtain ⟨a0, len0, cap0, rfl⟩ := okWide_slice Try.underlying22 (hval 0 22 v0 rfl rfl)
  have k0 := h0
  have lt0 : ∀ x ∈ p0, x.block < W.heap.size := by obtain ⟨m, hm⟩ := k0; exact DataW.trod_lt m _ _ _ hm
  obtain ⟨b0, w0⟩ : ∃ bs, Sl W a0 len0 bs := by
    obtain ⟨fuel, hf⟩ := h0
    rcases open_ints Try.underlying22 Try.underlying5 (by kernel_rfl) hf with ⟨hcs, _⟩ | ⟨x, l, c, zs, hcs, _, hl, hm, hz, _, hcell, hwz⟩
    · simp [Value.cells] at hcs
      obtain ⟨rfl, rfl, rfl⟩ := hcs
      exact ⟨[], sl_nil _ _⟩
    · simp [Value.cells] at hcs
      obtain ⟨rfl, rfl, rfl⟩ := hcs
      exact ⟨_, sl_of_ints hl hm (by simpa using hz) hcell hwz⟩
  clear hA0 hval0
  refine (walk a0 len0 cap0 b0 W w0).mono fun e W' ⟨he, bel⟩ => ?_
  subst he
  exact ⟨_, rfl, _, _, _, [], _, [], hW', trodAll_mk1 (shut_bool Try.underlying4 _), (trodAll_cons_mk (Below.trod laidOut (by kernel_rfl) (of_decide_eq_true (by kernel_rfl)) k0 bel lt0) trodAll_mk0), rfl, bel.frame _, fun h => by cases h⟩

theorem over : Rows.fnBetweenRow.holds Try.pinned (OpenSpec.ofChange Rows.fnBetweenSpec) :=
  OpenClaim.holds_of_wide 5 Try.f5 rfl rfl rfl rfl rfl rfl rfl ⟨rfl, rfl, rfl, rfl, rfl⟩ rfl rfl rfl rfl rfl (by kernel_rfl) Try.func5 (by kernel_rfl)
    (of_decide_eq_true (by kernel_rfl)) (by unfold Func.isWrapper; first | (rw [if_pos (by decide +kernel)]; kernel_rfl) | (rw [if_neg (by decide +kernel)]; exact ⟨rfl, rfl⟩))
    (fun os started H enc _ => lifted os started H enc)

theorem proved : Rows.FnBetweenSaid := over
end Go.Proofs.Ytblgkcgmnmligaa.fnBetween
