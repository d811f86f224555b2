/- The program's OpsFor and ShardsOf, also of orders that are nil. The specification's shard: how it is with a transaction, and how many keys there are. The program's shard: what is alike, and whether it is right. Whether what is held is of orders that began, and is their part: both sides. Whether what is chosen is promised by its shards for sure: the specification. -/
import Derived.Test.YtggihjmcafoppaaShaq
import Derived.Sort.OwnSortedInts
import Derived.Test.YtggihjmcafoppaaShaj
import Derived.Test.YtggihjmcafoppaaShah
import Derived.Test.YtggihjmcafoppaaShap
import Derived.Test.YtggihjmcafoppaaShac
import Derived.Test.YtggihjmcafoppaaShai
import Derived.Deep.RegionHeld3
import Derived.BigRegion
namespace Go.Proofs.Ytggihjmcafoppaa.ords
open Go Go.RowKit Go.Proofs.Ytggihjmcafoppaa.base Go.Proofs.Ytggihjmcafoppaa.pairs
open Go.Maps (Keyed keyOf_int_mk)
open Go.Sort (Holds)
set_option linter.unusedVariables false
set_option linter.unusedSimpArgs false

set_option maxRecDepth 100000 in
set_option maxHeartbeats 2000000 in
theorem i_byShardA (a : Option Addr) (len cap : Nat) (l : List Od) (n : Int) (w : World) (h : SlO w a len l) (hks : ∀ p ∈ l, p.2.1.size ≤ 1099511627776) (hsz : len ≤ 1099511627776) (hn : (Lit.int .i64 n).wf = true) :
    Calls Try.prog 108 #[.slice a len cap, .int .i64 n] w fun e w' =>
      e = .returned (.map (some w.heap.size)) ∧ Groups w' w.heap.size (w.heap.size + 1) len (fun s => opsFor s n l) ∧ Below w.heap.size w w' := by
  obtain ⟨i0, hi, hz0, hz1, hz2⟩ := info_parts infoO
  have hl := h.1
  have hsm := h.2.2.1
  have hmm := @run_makeMap Try.prog
  subst hl
  go_enter Try.func108, Try.ntmps108
  go_wp2_with (at_builtin; fail)
  go_loopw [12] (fun i wr => ∃ k : Nat, k ≤ l.length ∧ i = .int .i64 (k : Int) ∧ Groups wr w.heap.size (w.heap.size + 1) k (fun s => opsFor s n (l.take k)) ∧ Below w.heap.size w wr) (fun i _ => l.length - (intOf i).toNat)
  case atStart => exact ⟨0, Nat.zero_le _, rfl, groups_made w, (Below.refl _ _).alloc (Nat.le_refl _) _⟩
  case round =>
    obtain ⟨k, hk, rfl, hT, hB⟩ := hrel
    clear hmm
    by_cases hlt : k < l.length
    · obtain ⟨b, off, hab, _⟩ := h.2.2.2 (by omega)
      subst hab
      obtain ⟨c0, c1, c2⟩ := (h.below hB).cells k hlt
      have hki : (k : Int) < (l.length : Int) := by omega
      have hpk := hsm _ (List.getElem_mem hlt)
      have hks' := hks _ (List.getElem_mem hlt)
      have HU := Hid.mk' (opsFor_upd n l k hlt)
      have hfl := opsFor_le (shardOf l[k].2.1 n) n (l.take k)
      have hlk : (l.take k).length ≤ k := List.length_take_le _ _
      have hsw := shardOf_wf l[k].2.1 n
      have hba : Below wr.heap.size wr (wr.alloc (.cells #[.int .i64 l[k].1, .string l[k].2.1, .string l[k].2.2] 121)) := (Below.refl _ _).alloc (Nat.le_refl _) _
      have HC := Hid.mk' (impl_shardOf l[k].2.1 n (wr.alloc (.cells #[.int .i64 l[k].1, .string l[k].2.1, .string l[k].2.2] 121)) hks' hn)
      generalize shardOf l[k].2.1 n = sh at *
      generalize l[k] = p at *
      go_wp2_with (at_builtin; fail)
      refine HC.out.mono ?_
      rintro e w3 ⟨rfl, hb3⟩
      obtain ⟨d0, d1, d2⟩ := box_cellO wr w3 p.1 p.2.1 p.2.2 hb3
      have hX3 : Below wr.heap.size wr w3 := hba.trans (hb3.mono hba.size)
      have hB3 : Below w.heap.size w w3 := hB.trans (hX3.mono hB.size)
      have hT3 := hT.below hX3
      have hsz3 : w.heap.size + 1 ≤ w3.heap.size := hT3.lt
      clear HC hb3 hX3 hB hT c0 c1 c2 hba
      go_wp2_with (at_lookup; refine wpList_look_groups _ rfl _ _ rfl rfl rfl hT3 hsw (by unfold maxLen; omega) ?_)
      intro v hown hsmv hback
      have hc3 : (opsFor sh n (l.take k)).length + 1 ≤ maxLen := by unfold maxLen; omega
      have hc4 : ((opsFor sh n (l.take k)).length + 1) * 40 ≤ 140737488355328 := by omega
      have HT3 := Hid.mk' hT3
      have HBK := Hid.mk' hback
      have HSM : Hid (∀ q ∈ opsFor sh n (l.take k), smallO q) := fun q hq => hsmv q.1 q.2.1 q.2.2 hq
      clear hback hT3 hsmv
      go_wp2_with (at_builtin; refine wpList_append_own_at _ rfl (.tmp 24) (.tmp 26) 67 rfl (w.heap.size + 1) 121 i0 (.agg #[.int .i64 0, .string ⟨#[]⟩, .string ⟨#[]⟩]) 3 40 Try.underlying67 hi hz0 hz1 hz2 rfl (by decide) _ _ _ rfl (hown.alloc _) ⟨w3.heap.size, 0, none⟩ 1 1 (ordVals [p]) rfl rfl (one_ord_cells _ _ _) (ordVals_oneCell _) hc3 hc4 (le_alloc _ _ hsz3) ?_)
      intro v4 w4 hown4 hgrow4 hnn hloc
      have hnn' : ¬ v4 = .slice none 0 0 := by simpa using hnn
      obtain ⟨g4, cp4, hv4, hO4⟩ := ownO_app rfl HSM.out hpk hnn' hown4
      subst hv4
      have hgr4 : w3.grownBy w4 v.ownBlock := World.grownBy.andThen ((World.grownBy_alloc w3 _ none).but v.ownBlock) hgrow4 (fun j hj => Or.inr hj)
      have hloc4 : some g4 = v.ownBlock ∨ w3.heap.size ≤ g4 := by
        rcases hloc with h1 | h1
        · exact Or.inl h1
        · simp [Value.ownBlock] at h1; exact Or.inr (by omega)
      have hB4 : Below w.heap.size w w4 := hB3.grown hgr4 hB3.size (fun j hj => by have := (hown.lt j hj).1; omega)
      clear hown hown4 hgrow4 hnn hnn' hloc hB3 HT3
      go_wp2_with (at_mapUpdate; refine wpList_store_back _ rfl _ _ _ rfl HBK.out rfl rfl rfl hgr4 hO4 (by simp) hloc4 ?_)
      intro w5 hT5 hgrow5
      rw [HU.out] at hT5
      have hB5 : Below w.heap.size w w5 := hB4.grown hgrow5 hB4.size (fun j hj => by cases hj; exact Nat.le_refl _)
      have HT5 := Hid.mk' hT5
      clear hgrow5 hB4 hT5 hO4 hgr4 hloc4 HBK
      go_wp2_with (at_builtin; fail)
      go_roundw
      case rel => exact ⟨k + 1, by omega, by go_num, HT5.out, hB5⟩
      case measure => simp [intOf]; omega
    · have HE : Hid (l.take k = l) := List.take_of_length_le (by omega)
      have hkl : k = l.length := by omega
      rw [HE.out] at hT
      go_wp2_with (at_builtin; fail)
      go_ret
      subst hkl
      exact ⟨rfl, hT, hB⟩
set_option maxRecDepth 100000 in
set_option maxHeartbeats 2000000 in
theorem impl_shardsOfA (a : Option Addr) (len cap : Nat) (l : List Od) (n : Int) (w : World) (h : SlO w a len l) (hks : ∀ p ∈ l, p.2.1.size ≤ 1099511627776) (hsz : len ≤ 1099511627776) (hn : (Lit.int .i64 n).wf = true) :
    Calls Try.prog 88 #[.slice a len cap, .int .i64 n] w fun e w' =>
      ∃ g' n' cap', e = .returned (.slice (some ⟨g', 0, none⟩) n' cap') ∧ OwnZ w' w.heap.size g' n' cap' (shardsOf n l) ∧ Below w.heap.size w w' := by
  obtain ⟨i0, hi, hz0, hz1, hz2⟩ := info_parts infoZ
  have hba : Below w.heap.size w (w.alloc (.cells #[] 3)) := (Below.refl _ _).alloc (Nat.le_refl _) _
  have hO1 := ownZ_made w w.heap.size (Nat.le_refl _)
  have hC := i_byShardA a len cap l n _ (h.below hba) hks hsz hn
  have hsz1 : (w.alloc (.cells #[] 3)).heap.size = w.heap.size + 1 := by simp
  rw [hsz1] at hC
  have HC := Hid.mk' hC
  clear hC hsz1
  go_enter Try.func88, Try.ntmps88
  go_wp2_with (at_builtin; fail)
  refine HC.out.mono ?_
  rintro e w2 ⟨rfl, hT, hb2⟩
  have hb2' : Below (w.alloc (.cells #[] 3)).heap.size (w.alloc (.cells #[] 3)) w2 := hb2.mono (by simp)
  have hB2 : Below w.heap.size w w2 := hba.trans (hb2'.mono hba.size)
  have hO2 := hO1.below hb2'
  have hbs := hB2.size
  obtain ⟨D, hown, hIs, hD⟩ := hT.owns
  have HD := Hid.mk' hD
  have hsD := size_has hown
  clear HC hb2 hb2' hO1 hba hT hD hIs
  go_wp2_with (at_range; refine wpList_range_own _ rfl _ 151 rfl 3 67 intLaw Try.underlying151 noR (w.heap.size + 1) len D rfl hown ?_)
  intro w3 hrg3 hg3 hs3
  have hO3 := hO2.grown hg3 (by simp)
  have hB3 : Below w.heap.size w w3 := hB2.grown hg3 hbs (fun j hj => by cases hj)
  have hr3 : w.heap.size ≤ w2.heap.size := hbs
  generalize w2.heap.size = rr at *
  clear hO2 hB2 hown hg3 hbs
  go_wp2_with (at_builtin; fail)
  go_loopw [5] (fun v wr => ∃ (left : Lit → Bool) (cnt g m cp : Nat) (ks : List Int), wr.ranges Try.prog 3 noR (w.heap.size + 1) rr len D left cnt ∧ v = .slice (some ⟨g, 0, none⟩) m cp ∧ OwnZ wr w.heap.size g m cp ks ∧ Hid (Coll D left ks) ∧ m + cnt ≤ len ∧ Below w.heap.size w wr) (fun _ wr => wr.rangeLeft (w.heap.size + 1) rr)
  case atStart => exact ⟨_, _, _, _, _, [], hrg3, rfl, hO3, Coll.start D, by omega, hB3⟩
  case round =>
    clear hrg3 hO3 hB3
    obtain ⟨left, cnt, g, m, cp, ks, hrg, rfl, hO, HG, hlen, hB⟩ := hrel
    have hbw := hB.size
    go_wp2_with (at_next; refine wpList_next_key _ rfl _ rfl (w.heap.size + 1) rr len D left cnt rfl hrg ?_ ?_)
    · intro hl0
      have HS := Hid.mk' (HG.out.sorted hl0 HD.out)
      have hml := hO.1
      have HSO := Hid.mk' (sorts.sort_int g 0 cp ks wr (ownZ_holds hO) hO.lt.2 (by omega))
      rw [hml] at HSO
      clear hrg hl0 HG
      go_wp2_with fail
      refine HSO.out.mono ?_
      rintro e w5 ⟨rfl, nn, os, hw5⟩
      obtain ⟨hO5, hg5⟩ := ownZ_sorted (nn := nn) (os := os) hO
      rw [← hw5] at hO5 hg5
      have hB5 : Below w.heap.size w w5 := hB.grown hg5 hbw (fun j hj => by cases hj; exact hO.lt.1)
      rw [HS.out] at hO5
      have HO5 := Hid.mk' hO5
      clear hw5 hg5 hO5 hO hB HSO
      go_wp2_with fail
      go_ret
      exact ⟨_, _, _, rfl, HO5.out, hB5⟩
    · intro x c w1 cnt1 hwx hlk hhas HRG hlt hg1 hen
      have hm0 : wr.rangeLeft (w.heap.size + 1) rr = cnt := hrg.left_eq
      have HG1 : Hid (Coll D (fun z => left z && !z.sameKey (.int .i64 x)) (ks ++ [x])) := HG.out.step hwx hlk hhas
      have hne := ranges_ne hO hrg
      have hO1 := hO.grown hg1 (fun e => hne.2 (by cases e; rfl))
      have hB1 : Below w.heap.size w w1 := hB.grown hg1 hbw (fun j hj => by cases hj; exact hr3)
      have hc3 : m + 1 ≤ maxLen := by unfold maxLen; omega
      have hc4 : (m + 1) * 8 ≤ 140737488355328 := by omega
      have hbw1 : w.heap.size ≤ w1.heap.size := hB1.size
      have HM0 := Hid.mk' hm0
      clear hO hB hrg hg1 HG hne hhas hm0
      go_wp2_with (at_builtin; refine wpList_append_own _ rfl (.tmp 16) (.tmp 18) 123 rfl w.heap.size 3 i0 (.int .i64 0) 1 8 Try.underlying123 hi hz0 hz1 hz2 rfl (by decide) _ _ _ rfl (hO1.2.alloc _) ⟨w1.heap.size, 0, none⟩ 1 1 (intVals [x]) rfl rfl (one_int_cells _ _ _) (intVals_oneCell _) hc3 hc4 (le_alloc _ _ hbw1) ?_)
      intro v4 w4 hown4 hgrow4 hnn
      have hnn' : ¬ v4 = .slice none 0 0 := by simpa using hnn
      obtain ⟨g4, cp4, hv4, hO4⟩ := ownZ_app hO1.1 hnn' hown4
      subst hv4
      have hO1a : OwnZ (w1.alloc (.cells #[.int .i64 x] 3)) w.heap.size g m cp ks := hO1.below ((Below.refl _ _).alloc (Nat.le_refl _) _)
      have hrga := HRG.out.alloc (.cells #[.int .i64 x] 3)
      have hne := ranges_ne hO1a hrga
      have hrg4 := hrga.kept hgrow4 (fun e => hne.1 (by simp [Value.ownBlock] at e; omega)) (fun e => hne.2 (by simp [Value.ownBlock] at e; omega))
      have hB4 : Below w.heap.size w w4 := (hB1.alloc hbw1 _).grown hgrow4 (le_alloc _ _ hbw1) (fun j hj => by simp [Value.ownBlock] at hj; have := hO1.lt; omega)
      have HO4 := Hid.mk' hO4
      have HR4 := Hid.mk' hrg4
      clear hown4 hgrow4 hnn hnn' hO4 hO1 hO1a hrga hne hB1 hrg4 HRG
      go_wp2_with (at_builtin; fail)
      go_roundw
      case rel => exact ⟨_, cnt1, g4, m + 1, cp4, ks ++ [x], HR4.out, rfl, HO4.out, HG1, by omega, hB4⟩
      case measure => rw [HR4.out.left_eq, HM0.out]; exact hlt
end Go.Proofs.Ytggihjmcafoppaa.ords

namespace Go.Proofs.Ytggihjmcafoppaa.recs
open Go Go.RowKit Go.Proofs.Ytggihjmcafoppaa.base Go.Proofs.Ytggihjmcafoppaa.pairs Go.Proofs.Ytggihjmcafoppaa.ords Go.Proofs.Ytggihjmcafoppaa.helps Go.Proofs.Ytggihjmcafoppaa.help Go.Proofs.Ytggihjmcafoppaa.lay
set_option linter.unusedVariables false
set_option linter.unusedSimpArgs false

end Go.Proofs.Ytggihjmcafoppaa.recs

namespace Go.Proofs.Ytggihjmcafoppaa.recs
open Go Go.RowKit Go.Proofs.Ytggihjmcafoppaa.base Go.Proofs.Ytggihjmcafoppaa.pairs Go.Proofs.Ytggihjmcafoppaa.ords Go.Proofs.Ytggihjmcafoppaa.helps Go.Proofs.Ytggihjmcafoppaa.help Go.Proofs.Ytggihjmcafoppaa.lay
set_option linter.unusedVariables false
set_option linter.unusedSimpArgs false

end Go.Proofs.Ytggihjmcafoppaa.recs

namespace Go.Proofs.Ytggihjmcafoppaa.wos
open Go Go.RowKit Go.Proofs.Ytggihjmcafoppaa.base Go.Proofs.Ytggihjmcafoppaa.pairs Go.Proofs.Ytggihjmcafoppaa.ords Go.Proofs.Ytggihjmcafoppaa.lay
set_option linter.unusedVariables false
set_option linter.unusedSimpArgs false

def begZ (l : List Orr) (tx : Int) : Int := match l.findIdx? fun o => decide (o.1 = tx) with
  | none => -1
  | some k => (k : Int)
theorem beg_hit {l : List Orr} {tx : Int} {k : Nat} (hk : k < l.length) (h : l[k].1 = tx) (hno : ∀ j (hj : j < k) (hl : j < l.length), l[j].1 ≠ tx) : begZ l tx = (k : Int) ∧ firstO l tx = some l[k] := by
  constructor
  · unfold begZ
    rw [show l.findIdx? (fun o => decide (o.1 = tx)) = some k from by
      rw [List.findIdx?_eq_some_iff_getElem]
      exact ⟨hk, by simp [h], fun j hj => by simp [hno j hj (by omega)]⟩]
  · unfold firstO
    rw [List.find?_eq_some_iff_getElem]
    exact ⟨by simp [h], k, hk, rfl, fun j hj => by simp [hno j hj (by omega)]⟩
theorem beg_none {l : List Orr} {tx : Int} (hno : ∀ j (hl : j < l.length), l[j].1 ≠ tx) : begZ l tx = -1 ∧ firstO l tx = none := by
  have h : ∀ x ∈ l, x.1 ≠ tx := fun x hx => by
    obtain ⟨j, hj, rfl⟩ := List.getElem_of_mem hx
    exact hno j hj
  constructor
  · unfold begZ
    rw [List.findIdx?_eq_none_iff.2 (fun x hx => by simp [h x hx])]
  · unfold firstO
    rw [List.find?_eq_none]
    exact fun x hx => by simp [h x hx]
theorem beg_cases (l : List Orr) (tx : Int) : (begZ l tx = -1 ∧ firstO l tx = none) ∨ ∃ k, ∃ hk : k < l.length, begZ l tx = (k : Int) ∧ firstO l tx = some l[k] := by
  cases e : l.findIdx? fun o => decide (o.1 = tx) with
  | none =>
    refine .inl (beg_none fun j hl h => ?_)
    have := List.findIdx?_eq_none_iff.1 e _ (List.getElem_mem hl)
    simp [h] at this
  | some k =>
    obtain ⟨hk, h1, h2⟩ := List.findIdx?_eq_some_iff_getElem.1 e
    exact .inr ⟨k, hk, beg_hit hk (by simpa using h1) fun j hj hl h3 => by have := h2 j hj; simp [h3] at this⟩
set_option maxRecDepth 100000 in
set_option maxHeartbeats 2000000 in
theorem spec_l12Begun (ja : Option Addr) (jn jc : Nat) (la : Option Addr) (ln lc : Nat) (sa : Option Addr) (sn sc : Nat) (na : Option Addr) (nn nc : Nat) (oa : Option Addr) (on oc : Nat) (ba : Option Addr) (bn bc : Nat) (x : Wo) (tx : Int) (w : World) (h : SeeWo w ja jn jc la ln lc sa sn sc na nn nc oa on oc ba bn bc x) :
    Calls Try.prog 49 #[.agg #[.int .i64 x.1.1, .int .i64 x.1.2.1, .int .i64 x.1.2.2.1, .slice ja jn jc, .slice la ln lc, .int .i64 x.1.2.2.2.2.2, .slice sa sn sc, .slice na nn nc, .slice oa on oc, .slice ba bn bc], .int .i64 tx] w fun e w' => e = .returned (.int .i64 (begZ x.2.2.2.2 tx)) ∧ Below w.heap.size w w' := by
  obtain ⟨W, hW⟩ : ∃ W, w.alloc (.cells #[.int .i64 x.1.1, .int .i64 x.1.2.1, .int .i64 x.1.2.2.1, .slice ja jn jc, .slice la ln lc, .int .i64 x.1.2.2.2.2.2, .slice sa sn sc, .slice na nn nc, .slice oa on oc, .slice ba bn bc] 30) = W := ⟨_, rfl⟩
  have hB : Below w.heap.size w W := by rw [← hW]; exact below_make
  have hX : BoxIn w.heap.size 30 [] [.int .i64 x.1.1, .int .i64 x.1.2.1, .int .i64 x.1.2.2.1, .slice ja jn jc, .slice la ln lc, .int .i64 x.1.2.2.2.2.2, .slice sa sn sc, .slice na nn nc, .slice oa on oc, .slice ba bn bc] [] W := by rw [← hW]; exact boxIn_new w _ _
  have hL := h.begun.below hB
  have hm := h.begun.2.1
  unfold maxLen at hm
  have HLL := Hid.mk' h.begun.1
  have HW := Hid.mk' hW
  clear hW h
  go_enter Try.func49, Try.ntmps49
  go_wp2_with fail
  rw [HW.out]
  go_loopw [5] (fun i wr => ∃ k : Nat, k ≤ bn ∧ i = .int .i64 (k : Int) ∧ Below W.heap.size W wr ∧ ∀ j (hj : j < k) (hl : j < x.2.2.2.2.length), x.2.2.2.2[j].1 ≠ tx) (fun i _ => bn - (intOf i).toNat)
  case atStart => exact ⟨0, Nat.zero_le _, rfl, Below.refl _ _, fun j hj => absurd hj (Nat.not_lt_zero _)⟩
  case round =>
    obtain ⟨k, hk, rfl, hb, hno⟩ := hrel
    have HNO := Hid.mk' hno
    have hBw := hB.trans (hb.mono hB.size)
    obtain ⟨a0, a1, a2, a3, a4, a5, a6, a7, a8, a9⟩ := cells10 (hX.below hb)
    clear hno a0 a1 a2 a3 a4 a5 a6 a7 a8
    by_cases hlt : k < bn
    · have hki : (k : Int) < (bn : Int) := by omega
      have hkl : k < x.2.2.2.2.length := by have := HLL.out; omega
      obtain ⟨b, off, hba⟩ := cos.slg_some hL (by omega)
      subst hba
      obtain ⟨c0, oa', ol', oc', c1, _, _⟩ := ord_at (hL.below hb) k hkl
      have HP : Hid ((x.2.2.2.2[k].1 = tx → begZ x.2.2.2.2 tx = (k : Int)) ∧ (x.2.2.2.2[k].1 ≠ tx → ∀ j (hj : j < k + 1) (hl : j < x.2.2.2.2.length), x.2.2.2.2[j].1 ≠ tx)) := ⟨fun e => (beg_hit hkl e HNO.out).1, fun e j hj hl => by
        by_cases hjk : j = k
        · subst hjk; exact e
        · exact HNO.out j (by omega) hl⟩
      generalize x.2.2.2.2[k].1 = t at *
      clear c1
      by_cases e1 : t = tx
      · have d1 : (t == tx) = true := beq_iff_eq.2 e1
        have HT := Hid.mk' (HP.out.1 e1)
        clear HP e1
        go_wp2_with fail
        go_ret
        exact ⟨ret_int HT.out.symm, hBw⟩
      · have d1 : (t == tx) = false := beq_eq_false_iff_ne.2 e1
        have HF := Hid.mk' (HP.out.2 e1)
        clear HP e1
        go_wp2_with fail
        go_roundw
        case rel => exact ⟨k + 1, by omega, by go_num, hb, HF.out⟩
        case measure => simp [intOf]; omega
    · have hki : ¬ (k : Int) < (bn : Int) := by omega
      have HT : Hid (begZ x.2.2.2.2 tx = -1) := (beg_none fun j hl => HNO.out j (by have := HLL.out; omega) hl).1
      go_wp2_with fail
      go_ret
      exact ⟨ret_int HT.out.symm, hBw⟩
structure SmallB (x : Wo) : Prop where
  ops : ∀ y ∈ x.2.2.2.2, y.2.length ≤ 1048576 ∧ ∀ p ∈ y.2, p.2.1.size ≤ 1048576
  n : x.2.2.2.2.length ≤ 1048576
end Go.Proofs.Ytggihjmcafoppaa.wos

namespace Go.Proofs.Ytggihjmcafoppaa.wos
open Go Go.RowKit Go.Proofs.Ytggihjmcafoppaa.base Go.Proofs.Ytggihjmcafoppaa.pairs Go.Proofs.Ytggihjmcafoppaa.ords Go.Proofs.Ytggihjmcafoppaa.lay
set_option linter.unusedVariables false
set_option linter.unusedSimpArgs false

def heldA (x : Wo) (tx z : Int) : Bool := match x.2.1[z.toNat]? with | none => false | some s => keepS s tx
def heldO (x : Wo) (o : Orr) : Bool := (shardsOf x.1.1 o.2).all (heldA x o.1)
def promA (x : Wo) (c : cos.Ch) : Bool := !c.2 || (match firstO x.2.2.2.2 c.1 with | none => false | some o => heldO x o)
def promR (x : Wo) : Bool := x.1.2.2.2.2.1.all (promA x)
theorem shards_nat {n : Int} {l : List Od} {z : Int} (h : z ∈ shardsOf n l) : ∃ K : Nat, z = (K : Int) := by
  obtain ⟨o, _, rfl⟩ := (shards_mem n l z).1 h
  have h0 : 0 ≤ shardOf o.2.1 n := by
    unfold shardOf
    split
    · omega
    · exact Int.emod_nonneg _ (by omega)
  exact ⟨(shardOf o.2.1 n).toNat, by omega⟩
theorem heldA_out {x : Wo} {tx : Int} {K : Nat} (h : x.2.1.length ≤ K) : heldA x tx (K : Int) = false := by
  unfold heldA
  rw [Int.toNat_natCast, List.getElem?_eq_none h]
theorem heldA_in {x : Wo} {tx : Int} {K : Nat} (h : K < x.2.1.length) : heldA x tx (K : Int) = keepS x.2.1[K] tx := by
  unfold heldA
  rw [Int.toNat_natCast, List.getElem?_eq_getElem h]
set_option maxRecDepth 100000 in
set_option maxHeartbeats 4000000 in
theorem spec_l13Held (ja : Option Addr) (jn jc : Nat) (la : Option Addr) (ln lc : Nat) (sa : Option Addr) (sn sc : Nat) (na : Option Addr) (nn nc : Nat) (oa : Option Addr) (on oc : Nat) (ba : Option Addr) (bn bc : Nat) (x : Wo) (qa : Option Addr) (ql qc : Nat) (o : Orr) (w : World) (h : SeeWo w ja jn jc la ln lc sa sn sc na nn nc oa on oc ba bn bc x) (ho : SlO w qa ql o.2) (hql : ql ≤ 1048576) :
    Calls Try.prog 54 #[.agg #[.int .i64 x.1.1, .int .i64 x.1.2.1, .int .i64 x.1.2.2.1, .slice ja jn jc, .slice la ln lc, .int .i64 x.1.2.2.2.2.2, .slice sa sn sc, .slice na nn nc, .slice oa on oc, .slice ba bn bc], .agg #[.int .i64 o.1, .slice qa ql qc]] w fun e w' => e = .returned (.bool (heldO x o)) ∧ Below w.heap.size w w' := by
  obtain ⟨W, hW⟩ : ∃ W, (w.alloc (.cells #[.int .i64 x.1.1, .int .i64 x.1.2.1, .int .i64 x.1.2.2.1, .slice ja jn jc, .slice la ln lc, .int .i64 x.1.2.2.2.2.2, .slice sa sn sc, .slice na nn nc, .slice oa on oc, .slice ba bn bc] 30)).alloc (.cells #[.int .i64 o.1, .slice qa ql qc] 80) = W := ⟨_, rfl⟩
  have hba : Below w.heap.size w (w.alloc (.cells #[.int .i64 x.1.1, .int .i64 x.1.2.1, .int .i64 x.1.2.2.1, .slice ja jn jc, .slice la ln lc, .int .i64 x.1.2.2.2.2.2, .slice sa sn sc, .slice na nn nc, .slice oa on oc, .slice ba bn bc] 30)) := (Below.refl _ _).alloc (Nat.le_refl _) _
  have hB : Below w.heap.size w W := by rw [← hW]; exact hba.alloc hba.size _
  have hX : BoxIn w.heap.size 30 [] [.int .i64 x.1.1, .int .i64 x.1.2.1, .int .i64 x.1.2.2.1, .slice ja jn jc, .slice la ln lc, .int .i64 x.1.2.2.2.2.2, .slice sa sn sc, .slice na nn nc, .slice oa on oc, .slice ba bn bc] [] W := by rw [← hW]; exact (boxIn_new w _ _).below ((Below.refl _ _).alloc (Nat.le_refl _) _)
  have hR : BoxIn (w.heap.size + 1) 80 [] [.int .i64 o.1, .slice qa ql qc] [] W := by
    rw [← hW]
    have := boxIn_new (w.alloc (.cells #[.int .i64 x.1.1, .int .i64 x.1.2.1, .int .i64 x.1.2.2.1, .slice ja jn jc, .slice la ln lc, .int .i64 x.1.2.2.2.2.2, .slice sa sn sc, .slice na nn nc, .slice oa on oc, .slice ba bn bc] 30)) [.int .i64 o.1, .slice qa ql qc] 80
    rwa [show (w.alloc (.cells #[.int .i64 x.1.1, .int .i64 x.1.2.1, .int .i64 x.1.2.2.1, .slice ja jn jc, .slice la ln lc, .int .i64 x.1.2.2.2.2.2, .slice sa sn sc, .slice na nn nc, .slice oa on oc, .slice ba bn bc] 30)).heap.size = w.heap.size + 1 by simp] at this
  have hS := h.sh.below hB
  have hnw := h.co.n
  have hm := h.sh.2.1
  unfold maxLen at hm
  have HSL := Hid.mk' h.sh.1
  have HSO := Hid.mk' (spec_shardsOf qa ql qc o.2 x.1.1 W (ho.below hB) (by omega) hnw)
  have HW := Hid.mk' hW
  obtain ⟨a0, a1, a2, a3, a4, a5, a6, a7, a8, a9⟩ := cells10 hX
  obtain ⟨b0, b1⟩ := cells2 hR
  rw [← hW] at a0 b1
  clear hW h a1 a2 a3 a4 a5 a6 a7 a8 a9 b0 ho hba
  go_enter Try.func54, Try.ntmps54
  go_wp2_with fail
  rw [HW.out]
  refine HSO.out.mono ?_
  rintro e W1 ⟨g, n, cap, rfl, hZ, hb1⟩
  clear a0 b1 HSO HW
  have HMEM : Hid (∀ z ∈ shardsOf x.1.1 o.2, ∃ K : Nat, z = (K : Int)) := fun z hz => shards_nat hz
  have HHO : Hid (heldO x o = (shardsOf x.1.1 o.2).all (heldA x o.1)) := rfl
  generalize shardsOf x.1.1 o.2 = zs at *
  have HZL := Hid.mk' hZ.1
  have hnm : n ≤ 9223372036854775807 := by have := hZ.sl.2.1; unfold maxLen at this; omega
  go_wp2_with fail
  go_loopw [6] (fun i wr => ∃ k : Nat, k ≤ n ∧ i = .int .i64 (k : Int) ∧ Below W1.heap.size W1 wr ∧ ∀ j (hj : j < k) (hl : j < zs.length), heldA x o.1 zs[j] = true) (fun i _ => n - (intOf i).toNat)
  case atStart => exact ⟨0, Nat.zero_le _, rfl, Below.refl _ _, fun j hj => absurd hj (Nat.not_lt_zero _)⟩
  case round =>
    obtain ⟨k, hk, rfl, hb, hyes⟩ := hrel
    have HYES := Hid.mk' hyes
    have hbw := hb1.trans (hb.mono hb1.size)
    have hBw := hB.trans (hbw.mono hB.size)
    clear hyes
    by_cases hlt : k < n
    · have hki : (k : Int) < (n : Int) := by omega
      have hkl : k < zs.length := by have := HZL.out; omega
      have z0 := (hZ.below hb).at k hkl
      obtain ⟨K, hK⟩ := HMEM.out _ (List.getElem_mem hkl)
      have HP : Hid (∀ v, heldA x o.1 (K : Int) = v → (v = false → heldO x o = false) ∧ (v = true → ∀ j (hj : j < k + 1) (hl : j < zs.length), heldA x o.1 zs[j] = true)) := fun v hv => ⟨fun e => HHO.out.trans (all_miss hkl (by rw [hK]; exact hv.trans e)), fun e j hj hl => by
        by_cases hjk : j = k
        · subst hjk; rw [hK]; exact hv.trans e
        · exact HYES.out j (by omega) hl⟩
      have HK := Hid.mk' hK
      rw [hK] at z0
      clear hK
      obtain ⟨a0, a1, a2, a3, a4, a5, a6, a7, a8, a9⟩ := cells10 (hX.below hbw)
      have o0 := last.On.cell (B := wr.heap.size) z0 (World.block_lt_of_cell? _ _ z0)
      have p6 := last.On.cell (B := wr.heap.size) a6 (World.block_lt_of_cell? _ _ a6)
      have hinh := last.On.inh wr.heap.size wr
      clear z0 a0 a1 a2 a3 a4 a5 a6 a7 a8 a9
      go_wp2_with fail
      refine last.wp_region_on wr.heap.size (by kernel_rfl) (by kernel_rfl) ?_
      repeat (go_big_quiet_step (fail))
      refine wpQuiet_nil ?_
      intro wq hwq
      obtain ⟨xq, hwq⟩ := hwq
      subst hwq
      have hbq : Below wr.heap.size wr xq.w := xq.2
      generalize xq.w = W3 at *
      clear o0 p6 hinh
      have hb3 := hb.trans (hbq.mono hb.size)
      have hbw3 := hbw.trans (hbq.mono hbw.size)
      have hBw3 := hBw.trans (hbq.mono hBw.size)
      by_cases hKs : K < sn
      · have hKi : (K : Int) < (sn : Int) := by omega
        have hKl : K < x.2.1.length := by have := HSL.out; omega
        obtain ⟨b, off, hsa⟩ := cos.slg_some hS (by omega)
        subst hsa
        obtain ⟨rla, rln, rlc, rma, rmn, rmc, rha, rhn, rhc, s0, s1, s2, s3, s4, hsee⟩ := shard_at (hS.below hbw3) K hKl
        have HKE := Hid.mk' (heldA_in (tx := o.1) hKl)
        generalize x.2.1[K] = s at *
        have z0 := (hZ.below hb3).at k hkl
        rw [HK.out] at z0
        obtain ⟨a0, a1, a2, a3, a4, a5, a6, a7, a8, a9⟩ := cells10 (hX.below hbw3)
        clear a0 a1 a2 a3 a4 a5 a7 a8 a9
        have hbU : Below W3.heap.size W3 (W3.alloc (.cells #[.int .i64 0, .slice none 0 0, .int .i64 0, .slice none 0 0, .slice none 0 0] 53)) := (Below.refl _ _).alloc (Nat.le_refl _) _
        have z0' := (hbU.cell (World.block_lt_of_cell? _ _ z0)).trans z0
        have a6' := (hbU.cell (World.block_lt_of_cell? _ _ a6)).trans a6
        have s0' := (hbU.cell (World.block_lt_of_cell? _ _ s0)).trans s0
        have s1' := (hbU.cell (World.block_lt_of_cell? _ _ s1)).trans s1
        have s2' := (hbU.cell (World.block_lt_of_cell? _ _ s2)).trans s2
        have s3' := (hbU.cell (World.block_lt_of_cell? _ _ s3)).trans s3
        have s4' := (hbU.cell (World.block_lt_of_cell? _ _ s4)).trans s4
        obtain ⟨W4, hW4⟩ : ∃ W4, (W3.alloc (.cells #[.int .i64 s.1, .slice rla rln rlc, .int .i64 s.2.2.1, .slice rma rmn rmc, .slice rha rhn rhc] 53)).drew = W4 := ⟨_, rfl⟩
        have hb4 : Below W3.heap.size W3 W4 := by rw [← hW4]; exact ((Below.refl _ _).alloc (Nat.le_refl _) _).drew
        have hC : BoxIn W3.heap.size 53 [] [.int .i64 s.1, .slice rla rln rlc, .int .i64 s.2.2.1, .slice rma rmn rmc, .slice rha rhn rhc] [] W4 := by
          rw [← hW4]
          exact (boxIn_new W3 _ _).below (Below.refl _ _).drew
        have HW4 := Hid.mk' hW4
        have hlog := hsee.log.below hb4
        clear hW4 hsee
        have hbw4 := hbw3.trans (hb4.mono hbw3.size)
        have hBw4 := hBw3.trans (hb4.mono hBw3.size)
        have hr4 := hb3.trans (hb4.mono hb3.size)
        have HC1 := Hid.mk' (spec_l13Says rla rln rlc s.2.1 s.2.2.1 1 o.1 W4 hlog)
        have HC2 := Hid.mk' (fun wx (hx : Below W4.heap.size W4 wx) => spec_l13Says rla rln rlc s.2.1 s.2.2.1 2 o.1 wx (hlog.below hx))
        have HKS := Hid.mk' (keepS_says s o.1)
        go_wp2_with fail
        go_region
        rw [HW4.out]
        clear HW4 z0 z0' a6 a6' s0 s1 s2 s3 s4 s0' s1' s2' s3' s4' hbU
        obtain ⟨y0, y1, y2, y3, y4⟩ := cells5 hC
        obtain ⟨b0, b1⟩ := cells2 (hR.below hbw4)
        clear y0 y3 y4 b1
        generalize saysS s.2.1 s.2.2.1 1 o.1 = v1 at *
        generalize saysS s.2.1 s.2.2.1 2 o.1 = v2 at *
        cases v1
        · go_wp2_with fail
          refine HC1.out.mono ?_
          rintro e W5 ⟨rfl, hb5⟩
          clear y1 y2 b0 HC1
          have hbw5 := hbw4.trans (hb5.mono hbw4.size)
          have hBw5 := hBw4.trans (hb5.mono hBw4.size)
          have hr5 := hr4.trans (hb5.mono hr4.size)
          obtain ⟨y0, y1, y2, y3, y4⟩ := cells5 (hC.below hb5)
          obtain ⟨b0, b1⟩ := cells2 (hR.below hbw5)
          clear y0 y3 y4 b1
          cases v2
          · have HF := Hid.mk' ((HP.out false (HKE.out.trans HKS.out)).1 rfl)
            clear HP HKE HKS
            go_wp2_with fail
            refine (HC2.out _ hb5).mono ?_
            rintro e W6 ⟨rfl, hb6⟩
            clear y1 y2 b0 HC2
            go_wp2_with fail
            go_ret
            exact ⟨by rw [HF.out]; rfl, hBw5.trans (hb6.mono hBw5.size)⟩
          · have HF := Hid.mk' ((HP.out true (HKE.out.trans HKS.out)).2 rfl)
            clear HP HKE HKS
            go_wp2_with fail
            refine (HC2.out _ hb5).mono ?_
            rintro e W6 ⟨rfl, hb6⟩
            clear y1 y2 b0 HC2
            go_wp2_with fail
            go_roundw
            case rel => exact ⟨k + 1, by omega, by go_num, hr5.trans (hb6.mono hr5.size), HF.out⟩
            case measure => simp [intOf]; omega
        · have HF := Hid.mk' ((HP.out true (HKE.out.trans (HKS.out.trans (Bool.true_or _)))).2 rfl)
          clear HP HKE HKS
          go_wp2_with fail
          refine HC1.out.mono ?_
          rintro e W5 ⟨rfl, hb5⟩
          clear y1 y2 b0 HC1 HC2
          go_wp2_with fail
          go_roundw
          case rel => exact ⟨k + 1, by omega, by go_num, hr4.trans (hb5.mono hr4.size), HF.out⟩
          case measure => simp [intOf]; omega
      · have hKi : ¬ (K : Int) < (sn : Int) := by omega
        have HF := Hid.mk' ((HP.out false (heldA_out (by have := HSL.out; omega))).1 rfl)
        clear HP
        go_wp2_with fail
        go_ret
        exact ⟨by rw [HF.out]; rfl, hBw3⟩
    · have hki : ¬ (k : Int) < (n : Int) := by omega
      have HF : Hid (heldO x o = true) := HHO.out.trans (all_every fun j hj => HYES.out j (by have := HZL.out; omega) hj)
      go_wp2_with fail
      go_ret
      exact ⟨by rw [HF.out]; rfl, hBw⟩
end Go.Proofs.Ytggihjmcafoppaa.wos
