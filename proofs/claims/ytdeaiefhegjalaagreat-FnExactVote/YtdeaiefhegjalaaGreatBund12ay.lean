/- The program's deleting of keys: a map counts the keys, and the key is deleted from it. The program's orders: what is met, at which shard, what is done. -/
import Derived.Test.YtdeaiefhegjalaaGreatBund12ax
import Derived.Maps.OwnSet
import Derived.Maps.OwnOps
import Derived.Maps.Views
import Derived.Test.YtdeaiefhegjalaaGreatBund12aw
import Derived.Test.YtdeaiefhegjalaaGreatBund12ak
namespace Go.Proofs.YtdeaiefhegjalaaGreat.pairs
open Go Go.RowKit Go.Proofs.YtdeaiefhegjalaaGreat.base
open Go.Maps (Keyed)
open Go.WideMaps (keyOf_string_mk)
set_option linter.unusedVariables false
set_option linter.unusedSimpArgs false

theorem keyLaw : Keyed Tryz.prog 9 := Maps.string_keyed Tryz.underlying9
theorem zeroInt (w : World) : (zeroValue 3).run Tryz.prog w = .ok (.int .i64 0) w := by kernel_rfl

/-! ### how often a key is there -/
def cnt (s : ByteArray) (l : List Pr) : Nat := (l.filter fun p => decide (p.1 = s)).length
theorem cnt_le (s : ByteArray) (l : List Pr) : cnt s l ≤ l.length := List.length_filter_le _ _
theorem cnt_snoc (s : ByteArray) (l : List Pr) (k : Nat) (h : k < l.length) : cnt s (l.take (k + 1)) = cnt s (l.take k) + if s = l[k].1 then 1 else 0 := by
  unfold cnt
  rw [take_snocP l k h, List.filter_append, List.length_append]
  by_cases e : l[k].1 = s
  · simp [List.filter_cons, e]
  · have e' : ¬ s = l[k].1 := fun x => e x.symm
    simp [List.filter_cons, e, e']
theorem cnt_pos (l : List Pr) (k : Nat) (h : k < l.length) : 1 ≤ cnt l[k].1 l := by
  unfold cnt
  exact List.length_pos_of_mem (List.mem_filter.2 ⟨List.getElem_mem h, by simp⟩)
theorem delKey_snoc (key : ByteArray) (l : List Pr) (j : Nat) (h : j < l.length) : delKey key (l.take (j + 1)) = if l[j].1 = key then delKey key (l.take j) else delKey key (l.take j) ++ [l[j]] := by
  have hst := filter_snoc (fun p => decide (p.1 ≠ key)) l j h
  unfold delKey
  rw [hst]
  by_cases e : l[j].1 = key
  · rw [if_pos e]; simp [e]
  · rw [if_neg e]; simp [e]
theorem lit_inj {a b : Int} (h : (DataW.lit (.int .i64 a) : DataW Unit) = .lit (.int .i64 b)) : a = b := by
  cases h; rfl
theorem str_lit_ne {a b : ByteArray} (h : a ≠ b) : (Lit.string a.data.toList) ≠ .string b.data.toList := by
  intro e; apply h; apply bytes_ext; exact Lit.string.inj e

/-- block B is a map that has, at each key, a number -/
def Tally (w : World) (B n : Nat) (f : ByteArray → Nat) : Prop :=
  ∃ D : DataW Unit, w.ownsMap Tryz.prog 9 (plainElem Tryz.prog 3) B n D ∧ Maps.IsMap D ∧ ∀ s : ByteArray, D.atKey (.string s.data.toList) (.lit (.int .i64 0)) = .lit (.int .i64 (f s : Int))
theorem tally_made (w : World) : Tally (w.alloc (.map #[] 0)) w.heap.size 0 (fun _ => 0) :=
  ⟨.map [], World.ownsMap_made _ _ _ _, Maps.isMap_empty, fun s => rfl⟩
theorem Tally.below {w w' : World} {B n : Nat} {f : ByteArray → Nat} (h : Tally w B n f) (hb : Below w.heap.size w w') : Tally w' B n f := by
  obtain ⟨D, h1, h2, h3⟩ := h
  exact ⟨D, h1.kept (row := none) ⟨hb.os, hb.tape, hb.output, hb.size, fun k hk _ => hb.block k hk⟩ (by simp), h2, h3⟩
theorem Tally.grown {w w' : World} {B n : Nat} {f : ByteArray → Nat} {row : Option Nat} (h : Tally w B n f) (hg : w.grownBy w' row) (hne : some B ≠ row) : Tally w' B n f := by
  obtain ⟨D, h1, h2, h3⟩ := h
  exact ⟨D, h1.kept hg hne, h2, h3⟩

/-- the element at a key, one more -/
theorem Tally.put {w' : World} {B n : Nat} {f f' : ByteArray → Nat} {D : DataW Unit} {x : ByteArray} (h2 : Maps.IsMap D) (h3 : ∀ s : ByteArray, D.atKey (.string s.data.toList) (.lit (.int .i64 0)) = .lit (.int .i64 (f s : Int))) {v : Int} (hv : v = (f' x : Int)) (ho : ∀ s, s ≠ x → f' s = f s)
    (h1 : w'.ownsMap Tryz.prog 9 (plainElem Tryz.prog 3) B n (D.put (.string x.data.toList) (.lit (.int .i64 v)))) : Tally w' B n f' := by
  refine ⟨_, h1, h2.put _ _, fun s => ?_⟩
  by_cases e : s = x
  · subst e
    rw [Maps.atKey_put_same h2 (by trivial), hv]
  · rw [Maps.atKey_put_other (str_lit_ne e), h3, ho s e]

theorem Tally.del {w' : World} {B n : Nat} {f : ByteArray → Nat} {D : DataW Unit} {x : ByteArray} (h2 : Maps.IsMap D) (h3 : ∀ s : ByteArray, D.atKey (.string s.data.toList) (.lit (.int .i64 0)) = .lit (.int .i64 (f s : Int)))
    (h1 : w'.ownsMap Tryz.prog 9 (plainElem Tryz.prog 3) B n (D.del (.string x.data.toList))) : Tally w' B n (fun s => if s = x then 0 else f s) := by
  refine ⟨_, h1, h2.del _, fun s => ?_⟩
  by_cases e : s = x
  · subst e
    rw [Maps.atKey_del_same]; simp
  · rw [Maps.atKey_del_other (str_lit_ne e), h3]; simp [e]

set_option maxRecDepth 100000 in
set_option maxHeartbeats 4000000 in
theorem i_without (b off cap : Nat) (l : List Pr) (key : ByteArray) (w : World) (h : SlP w (some ⟨b, off, none⟩) l.length l) (hsz : l.length ≤ 1099511627776) (hkey : key.size ≤ maxLen) :
    Calls Tryz.prog 188 #[.slice (some ⟨b, off, none⟩) l.length cap, .string key] w fun e w' =>
      ∃ g' n' cap', e = .returned (.slice (some ⟨g', 0, none⟩) n' cap') ∧ OwnP w' w.heap.size g' n' cap' (delKey key l) ∧ Below w.heap.size w w' := by
  obtain ⟨i0, hif, hz0, hz1, hz2⟩ := info_parts infoP
  have hsm := h.2.2.1
  have hmt := i_meth
  have hmm := @run_makeMap Tryz.prog
  have hkk := keyOf_string_mk (P := Tryz.prog) Tryz.underlying9 hkey
  go_enter Tryz.func188, Tryz.ntmps188
  go_wp2_with (at_builtin; fail)
  go_loopw [14] (fun i wr => ∃ k : Nat, k ≤ l.length ∧ i = .int .i64 (k : Int) ∧ Tally wr w.heap.size k (fun s => cnt s (l.take k)) ∧ Below w.heap.size w wr) (fun i _ => l.length - (intOf i).toNat)
  case atStart => exact ⟨0, Nat.zero_le _, rfl, tally_made w, (Below.refl _ _).alloc (Nat.le_refl _) _⟩
  case round =>
    obtain ⟨k, hk, rfl, hT, hB⟩ := hrel
    clear hmm
    by_cases hlt : k < l.length
    · obtain ⟨c1, c2⟩ := (h.below hB).cells k hlt
      have hki : (k : Int) < (l.length : Int) := by omega
      have hpk := hsm _ (List.getElem_mem hlt)
      have HS : Hid (∀ s, cnt s (l.take (k + 1)) = cnt s (l.take k) + if s = l[k].1 then 1 else 0) := fun s => cnt_snoc s l k hlt
      have hle := cnt_le l[k].1 (l.take k)
      have hlk : (l.take k).length ≤ k := List.length_take_le _ _
      generalize l[k] = p at *
      have hpkey := keyOf_string_mk (P := Tryz.prog) Tryz.underlying9 hpk.1
      go_wp2_with fail
      refine (i_key p _).mono ?_
      rintro e w3 ⟨rfl, hw3⟩
      have hXB : Below wr.heap.size wr w3 := by rw [hw3]; exact ((Below.refl _ _).alloc (Nat.le_refl _) _).alloc (le_alloc _ _ (Nat.le_refl _)) _
      have hB3 : Below w.heap.size w w3 := hB.trans (hXB.mono hB.size)
      obtain ⟨D, hown, hD, hat0⟩ := hT.below hXB
      have HAT := Hid.mk' hat0
      clear hw3 hB hXB hT c1 c2 hat0
      go_wp2_with (at_lookup; refine wpList_lookup_own_int _ rfl _ _ 139 rfl 9 3 .i64 keyLaw Tryz.underlying139 Tryz.underlying3 (zeroInt _) w.heap.size k D rfl hown _ _ rfl hpkey ?_)
      intro c hat hwc
      obtain ⟨m, hm⟩ : ∃ m : Nat, m = cnt p.1 (l.take k) := ⟨_, rfl⟩
      obtain rfl : c = (m : Int) := by rw [HAT.out] at hat; rw [hm]; exact (lit_inj hat).symm
      have hmk : m ≤ k := by omega
      have HM := Hid.mk' hm
      clear hat hwc hm
      go_wp2_with (at_mapUpdate; refine wpList_mapUpdate_own _ rfl _ _ _ 139 rfl 9 3 keyLaw Tryz.underlying139 _ w.heap.size k D rfl hown (by unfold maxLen; omega) _ _ _ rfl rfl hpkey _ [] (plainElem_int Tryz.underlying3 (WalkArith.wf_i64 (by omega))) ?_)
      intro w4 hown4 hgrow4
      have hT4 : Tally w4 w.heap.size (k + 1) (fun s => cnt s (l.take (k + 1))) := Tally.put hD HAT.out (by rw [HS.out, if_pos rfl, ← HM.out]; simp) (fun s hs => by rw [HS.out, if_neg hs]; simp) hown4
      have hB4 := hB3.grown hgrow4 hB3.size (fun j hj => by cases hj; exact Nat.le_refl _)
      clear hown4 hgrow4 hown HAT hB3 hD
      go_wp2_with fail
      go_roundw
      case rel => exact ⟨k + 1, by omega, by go_num, hT4, hB4⟩
      case measure => simp [intOf]; omega
    · have HE : Hid (l.take k = l) := List.take_of_length_le (by omega)
      rw [HE.out] at hT
      obtain ⟨D, hown, hD, hat0⟩ := hT
      go_wp2_with (at_delete; refine wpList_delete_own _ rfl _ _ 139 9 rfl 3 keyLaw Tryz.underlying139 _ w.heap.size k D rfl hown _ _ rfl hkk ?_)
      intro w5 hown5 hturn5
      have hT5 := Tally.del hD hat0 hown5
      have hlt5 := hown.lt
      have hB5 := hB.grown hturn5.grown hB.size (fun j hj => by cases hj; exact Nat.le_refl _)
      have hs5 : w.heap.size + 1 ≤ w5.heap.size := Nat.le_trans hlt5 hturn5.grown.size
      clear hown5 hturn5 hown hat0 hD hB hlt5
      go_wp2_with (at_builtin; fail)
      go_loopw [8, 30] (fun v i wr => ∃ (j g n cp : Nat), j ≤ l.length ∧ n ≤ j ∧ i = .int .i64 (j : Int) ∧ v = .slice (some ⟨g, 0, none⟩) n cp ∧ OwnP wr (w.heap.size + 1) g n cp (delKey key (l.take j)) ∧ Tally wr w.heap.size k (fun s => if s = key then 0 else cnt s l) ∧ Below w.heap.size w wr) (fun _ i _ => l.length - (intOf i).toNat)
      case atStart => exact ⟨0, w5.heap.size, 0, 0, Nat.zero_le _, Nat.le_refl _, rfl, rfl, ownP_made w5 _ hs5, hT5.below ((Below.refl _ _).alloc (Nat.le_refl _) _), hB5.alloc hB5.size _⟩
      case round =>
        clear hT5 hB5 hs5
        obtain ⟨j, g, n, cp, hj, hnj, rfl, rfl, hO, hT, hB⟩ := hrel
        by_cases hltj : j < l.length
        · obtain ⟨c1, c2⟩ := (h.below hB).cells j hltj
          have hpk := hsm _ (List.getElem_mem hltj)
          have hki : (j : Int) < (l.length : Int) := by omega
          have hcp := cnt_pos l j hltj
          have hcl := cnt_le l[j].1 l
          have hpkey := keyOf_string_mk (P := Tryz.prog) Tryz.underlying9 hpk.1
          have HD := Hid.mk' (delKey_snoc key l j hltj)
          have hc3 : n + 1 ≤ maxLen := by unfold maxLen; omega
          have hc4 : (n + 1) * 32 ≤ 140737488355328 := by omega
          generalize l[j] = p at *
          go_wp2_with fail
          refine (i_key p _).mono ?_
          rintro e w3 ⟨rfl, hw3⟩
          have hX3 : Below (wr.alloc (.cells #[.string p.1, .string p.2] 60)).heap.size (wr.alloc (.cells #[.string p.1, .string p.2] 60)) w3 := by rw [hw3]; exact (Below.refl _ _).alloc (Nat.le_refl _) _
          have hXB : Below wr.heap.size wr w3 := ((Below.refl _ _).alloc (Nat.le_refl _) _).trans (hX3.mono (le_alloc _ _ (Nat.le_refl _)))
          have hB3 : Below w.heap.size w w3 := hB.trans (hXB.mono hB.size)
          have hO3 := hO.below hXB
          have hT3 := hT.below hXB
          obtain ⟨cb0, cb1⟩ := box_cell wr w3 p.1 p.2 hX3
          obtain ⟨D3, hown, hD3, hat0⟩ := hT.below hXB
          have HAT := Hid.mk' hat0
          clear hw3 hO hB hXB hX3 hT c1 c2 hat0
          go_wp2_with (at_lookup; refine wpList_lookup_own_int _ rfl _ _ 139 rfl 9 3 .i64 keyLaw Tryz.underlying139 Tryz.underlying3 (zeroInt _) w.heap.size k D3 rfl hown _ _ rfl hpkey ?_)
          intro c hat hwc
          rw [HAT.out] at hat
          have hcv := lit_inj hat
          clear hat hwc hown hD3 HAT
          by_cases he : p.1 = key
          · have hF := HD.out
            rw [if_pos he] at hF
            obtain rfl : c = 0 := by rw [if_pos he] at hcv; exact hcv.symm
            have HF := Hid.mk' hF
            clear hcv HD hF he
            go_wp2_with (at_builtin; fail)
            go_roundw
            case rel => exact ⟨j + 1, g, n, cp, by omega, by omega, by go_num, rfl, by rw [HF.out]; exact hO3, hT3, hB3⟩
            case measure => simp [intOf]; omega
          · have hF := HD.out
            rw [if_neg he] at hF
            rw [if_neg he] at hcv
            have hc0 : 0 < c := by omega
            have hc1 : c ≤ 1099511627776 := by omega
            have HF := Hid.mk' hF
            have hsz3 : w.heap.size + 1 ≤ w3.heap.size := by have := hO3.lt; omega
            clear hcv HD hF he
            go_wp2_with (at_builtin; refine wpList_append_own _ rfl (.tmp 40) (.tmp 42) 208 rfl (w.heap.size + 1) 60 i0 (.agg #[.string ⟨#[]⟩, .string ⟨#[]⟩]) 2 32 Tryz.underlying208 hif hz0 hz1 hz2 rfl (by decide) _ _ _ rfl (hO3.2.2.alloc _) ⟨w3.heap.size, 0, none⟩ 1 1 (pairVals [p]) rfl rfl (one_pair_cells _ _ _) (pairVals_oneCell _) hc3 hc4 (le_alloc _ _ hsz3) ?_)
            intro v2 w2 hown2 hgrow hnn
            obtain ⟨g2, cp2, hv, hO2⟩ := ownP_app hO3.1 hO3.2.1 hpk hnn hown2
            subst hv
            have hB2 : Below w.heap.size w w2 := (hB3.alloc hB3.size _).grown hgrow (le_alloc _ _ hB3.size) (fun k e => by simp [Value.ownBlock] at e; have := hO3.lt; omega)
            have hT2 := (hT3.below ((Below.refl _ _).alloc (Nat.le_refl _) _)).grown hgrow (by simp [Value.ownBlock]; have := hO3.lt; omega)
            rw [← HF.out] at hO2
            have HO2 := Hid.mk' hO2
            clear hown2 hgrow hnn hO2 hO3 hB3 hT3
            go_wp2_with (at_builtin; fail)
            go_roundw
            case rel => exact ⟨j + 1, g2, n + 1, cp2, by omega, by omega, by go_num, rfl, HO2.out, hT2, hB2⟩
            case measure => simp [intOf]; omega
        · have HE2 : Hid (l.take j = l) := List.take_of_length_le (by omega)
          go_wp2_with (at_builtin; fail)
          go_ret
          rw [HE2.out] at hO
          exact ⟨g, n, cp, rfl, hO.mono (by omega), hB⟩

set_option maxHeartbeats 1000000 in
theorem impl_delKey (b off len cap : Nat) (l : List Pr) (key : ByteArray) (w : World) (h : SlP w (some ⟨b, off, none⟩) len l) (hcap : len ≤ cap) (hsz : len ≤ 1099511627776) (hkey : key.size ≤ maxLen) :
    Calls Tryz.prog 170 #[.slice (some ⟨b, off, none⟩) len cap, .string key] w fun e w' =>
      ∃ g' n' cap', e = .returned (.slice (some ⟨g', 0, none⟩) n' cap') ∧ OwnP w' w.heap.size g' n' cap' (delKey key l) ∧ Below w.heap.size w w' := by
  have hl := h.1
  subst hl
  have HW := Hid.mk' (i_without b off cap l key w h hsz hkey)
  go_enter Tryz.func170, Tryz.ntmps170
  go_wp2_with fail
  refine HW.out.mono ?_
  rintro e w2 ⟨g, n, cp, rfl, hO, hB⟩
  have HO := Hid.mk' hO
  clear hO
  go_wp2_with fail
  go_ret
  exact ⟨g, n, cp, rfl, HO.out, hB⟩

end Go.Proofs.YtdeaiefhegjalaaGreat.pairs

namespace Go.Proofs.YtdeaiefhegjalaaGreat.ords
open Go Go.RowKit Go.Proofs.YtdeaiefhegjalaaGreat.base Go.Proofs.YtdeaiefhegjalaaGreat.pairs
set_option linter.unusedVariables false
set_option linter.unusedSimpArgs false

/-- whether a need holds -/
def need1 (m : List Pr) (k v : ByteArray) : Bool := match getKey k m with | none => decide (v.size = 0) | some x => decide (v.size ≠ 0) && decide (x = v)
theorem meet1_need (m : List Pr) (z : Int) (k v : ByteArray) : meet1 m (z, k, v) = (decide (z ≠ 3) || need1 m k v) := rfl

set_option maxRecDepth 100000 in
set_option maxHeartbeats 1000000 in
theorem i_needHolds (b off len cap : Nat) (m : List Pr) (z : Int) (k v : ByteArray) (w : World) (h : SlP w (some ⟨b, off, none⟩) len m) :
    Calls Tryz.prog 168 #[.slice (some ⟨b, off, none⟩) len cap, .agg #[.int .i64 z, .string k, .string v]] w fun e w' => e = .returned (.bool (need1 m k v)) ∧ Below w.heap.size w w' := by
  have hba : Below w.heap.size w (w.alloc (.cells #[.int .i64 z, .string k, .string v] 101)) := (Below.refl _ _).alloc (Nat.le_refl _) _
  have hG := impl_getKey b off len cap m k _ (h.below hba)
  unfold need1
  cases hg : getKey k m with
  | none =>
    rw [hg] at hG
    simp only [getRet] at hG ⊢
    have HG := Hid.mk' hG
    clear hG hg
    by_cases hv : v.size = 0
    · rw [decide_eq_true hv]
      obtain rfl := size_empty hv
      clear hv
      go_enter Tryz.func168, Tryz.ntmps168
      go_wp2_with fail
      refine HG.out.mono ?_
      rintro e w1 ⟨rfl, hb1⟩
      have hc := bcell hb1
      go_wp2_with fail
      go_ret
      exact ⟨rfl, hba.trans (hb1.mono hba.size)⟩
    · rw [decide_eq_false hv]
      obtain ⟨hq, hq2⟩ := not_empty hv
      clear hv
      go_enter Tryz.func168, Tryz.ntmps168
      go_wp2_with fail
      refine HG.out.mono ?_
      rintro e w1 ⟨rfl, hb1⟩
      have hc := bcell hb1
      go_wp2_with fail
      go_ret
      exact ⟨rfl, hba.trans (hb1.mono hba.size)⟩
  | some x =>
    rw [hg] at hG
    simp only [getRet] at hG ⊢
    have HG := Hid.mk' hG
    clear hG hg
    by_cases hv : v.size = 0
    · have HF : Hid ((decide (v.size ≠ 0) && decide (x = v)) = false) := by show _ = _; simp [hv]
      rw [HF.out]
      clear HF
      obtain rfl := size_empty hv
      clear hv
      go_enter Tryz.func168, Tryz.ntmps168
      go_wp2_with fail
      refine HG.out.mono ?_
      rintro e w1 ⟨rfl, hb1⟩
      have hc := bcell hb1
      go_wp2_with fail
      go_ret
      exact ⟨rfl, hba.trans (hb1.mono hba.size)⟩
    · obtain ⟨hq, hq2⟩ := not_empty hv
      by_cases hx : x = v
      · have HF : Hid ((decide (v.size ≠ 0) && decide (x = v)) = true) := by show _ = _; simp [hv, hx]
        rw [HF.out]
        clear HF hv
        subst hx
        go_enter Tryz.func168, Tryz.ntmps168
        go_wp2_with fail
        refine HG.out.mono ?_
        rintro e w1 ⟨rfl, hb1⟩
        have hc := bcell hb1
        go_wp2_with fail
        go_ret
        exact ⟨rfl, hba.trans (hb1.mono hba.size)⟩
      · have HF : Hid ((decide (v.size ≠ 0) && decide (x = v)) = false) := by show _ = _; simp [hx]
        rw [HF.out]
        have hne := str_ne hx
        clear HF hv hx
        go_enter Tryz.func168, Tryz.ntmps168
        go_wp2_with fail
        refine HG.out.mono ?_
        rintro e w1 ⟨rfl, hb1⟩
        have hc := bcell hb1
        go_wp2_with fail
        go_ret
        exact ⟨rfl, hba.trans (hb1.mono hba.size)⟩

set_option maxRecDepth 100000 in
set_option maxHeartbeats 2000000 in
theorem impl_meets (b off len cap : Nat) (m : List Pr) (b2 off2 len2 cap2 : Nat) (l : List Od) (w : World) (h : SlP w (some ⟨b, off, none⟩) len m) (h2 : SlO w (some ⟨b2, off2, none⟩) len2 l) (hsz : len + len2 ≤ 1099511627776) :
    Calls Tryz.prog 145 #[.slice (some ⟨b, off, none⟩) len cap, .slice (some ⟨b2, off2, none⟩) len2 cap2] w fun e w' => e = .returned (.bool (meets m l)) ∧ Below w.heap.size w w' := by
  have hl := h2.1
  subst hl
  generalize hR : meets m l = R
  have HR := Hid.mk' hR
  clear hR
  go_enter Tryz.func145, Tryz.ntmps145
  go_wp2_with fail
  go_loopw [9] (fun i wr => ∃ k : Nat, k ≤ l.length ∧ i = .int .i64 (k : Int) ∧ meets m (l.drop k) = R ∧ Below w.heap.size w wr) (fun i _ => l.length - (intOf i).toNat)
  case atStart => exact ⟨0, Nat.zero_le _, rfl, HR.out, Below.refl _ _⟩
  case round =>
    obtain ⟨k, hk, rfl, hr, hB⟩ := hrel
    by_cases hlt : k < l.length
    · obtain ⟨c0, c1, c2⟩ := (h2.below hB).cells k hlt
      have hst := meets_drop m l k hlt
      rw [hr] at hst
      have hki : (k : Int) < (l.length : Int) := by omega
      generalize l[k] = o at *
      obtain ⟨z, key, val⟩ := o
      simp only [] at c0 c1 c2
      rw [meet1_need] at hst
      have hBA : Below w.heap.size w (wr.alloc (.cells #[.int .i64 z, .string key, .string val] 101)) := hB.alloc hB.size _
      have hC := i_needHolds b off len cap m z key val _ (h.below hBA)
      by_cases hz : z = 3
      · subst hz
        cases hN : need1 m key val
        all_goals
          rw [hN] at hst hC
          have HST := Hid.mk' hst
          have HC := Hid.mk' hC
          clear hst hr hC hN
          go_wp2_with fail
          refine HC.out.mono ?_
          rintro e w3 ⟨rfl, hb3⟩
          have hB3 : Below w.heap.size w w3 := hBA.trans (hb3.mono hBA.size)
          clear hb3 hBA hB c0 c1 c2
          go_wp2_with fail
        · go_ret
          exact ⟨ret_bool (by rw [HST.out]; rfl), hB3⟩
        · go_roundw
          case rel => exact ⟨k + 1, by omega, by go_num, by rw [HST.out]; simp, hB3⟩
          case measure => simp [intOf]; omega
      · have HF : Hid (meets m (l.drop (k + 1)) = R) := by show _ = _; simp [hz] at hst; exact hst.symm
        have hzz : (z == 3) = false := beq_eq_false_iff_ne.2 hz
        clear hst hr hz hC
        go_wp2_with fail
        go_roundw
        case rel => exact ⟨k + 1, by omega, by go_num, HF.out, hBA⟩
        case measure => simp [intOf]; omega
    · have HF : Hid (R = true) := by show _ = _; rw [← hr, List.drop_eq_nil_of_le (by omega)]; rfl
      clear hr
      go_wp2_with fail
      go_ret
      exact ⟨ret_bool HF.out.symm, hB⟩

set_option maxHeartbeats 400000 in
theorem impl_shardOf (key : ByteArray) (n : Int) (w : World) (hs : key.size ≤ 1099511627776) (hn : (Lit.int .i64 n).wf = true) :
    Calls Tryz.prog 157 #[.string key, .int .i64 n] w fun e w' => e = .returned (.int .i64 (shardOf key n)) ∧ Below w.heap.size w w' := by
  have hH := hashOf_lt key.data.toList
  have HC := Hid.mk' (hash.impl_hash key w (by unfold maxLen; omega))
  unfold shardOf
  generalize hashOf key.data.toList = H at *
  by_cases h1 : n < 1
  · rw [if_pos h1]
    go_enter Tryz.func157, Tryz.ntmps157
    go_wp2_with fail
    go_ret
    exact ⟨rfl, Below.refl _ _⟩
  · rw [if_neg h1]
    have h2 : Int.tmod (H : Int) n = (H : Int) % n := Int.tmod_eq_emod_of_nonneg (by omega)
    have h3 : 0 ≤ (H : Int) % n := Int.emod_nonneg _ (by omega)
    have h4 : (H : Int) % n ≤ 4294967296 := by
      have h5 := Int.emod_add_ediv_mul (H : Int) n
      have h6 : 0 ≤ (H : Int) / n * n := Int.mul_nonneg (Int.ediv_nonneg (by omega) (by omega)) (by omega)
      omega
    generalize (H : Int) % n = R at *
    go_enter Tryz.func157, Tryz.ntmps157
    go_wp2_with fail
    refine HC.out.mono ?_
    rintro e w1 ⟨rfl, hb1⟩
    go_wp2_with fail
    go_ret
    exact ⟨rfl, hb1⟩

set_option maxRecDepth 100000 in
set_option maxHeartbeats 2000000 in
theorem impl_apply (b off len cap : Nat) (m : List Pr) (b2 off2 len2 cap2 : Nat) (l : List Od) (w : World) (h : SlP w (some ⟨b, off, none⟩) len m) (h2 : SlO w (some ⟨b2, off2, none⟩) len2 l) (hcap : len ≤ cap) (hsz : len + len2 ≤ 1099511627776) :
    Calls Tryz.prog 146 #[.slice (some ⟨b, off, none⟩) len cap, .slice (some ⟨b2, off2, none⟩) len2 cap2] w fun e w' =>
      ∃ g' n' cap', e = .returned (.slice (some ⟨g', 0, none⟩) n' cap') ∧ OwnP w' w.heap.size g' n' cap' (applyAll m l) ∧ Below w.heap.size w w' := by
  obtain ⟨i0, hif, hz0, hz1, hz2⟩ := info_parts infoP
  have hl := h.1
  have hsm := h.2.2.1
  have hl2 := h2.1
  have hsm2 := h2.2.2.1
  subst hl hl2
  have hba : Below w.heap.size w (w.alloc (.cells #[] 60)) := (Below.refl _ _).alloc (Nat.le_refl _) _
  have HC := Hid.mk' (cells_pairs (h.below hba).cells)
  have hn0 := pairVals_length m
  have hm1 : 0 + m.length ≤ maxLen := by unfold maxLen; omega
  have hm2 : (0 + m.length) * 32 ≤ 140737488355328 := by omega
  have hown0 := (ownP_made w w.heap.size (Nat.le_refl _)).2.2
  go_enter Tryz.func146, Tryz.ntmps146
  go_wp2_with (at_builtin; refine wpList_append_own _ rfl (.tmp 8) (.tmp 9) 25 rfl w.heap.size 60 i0 (.agg #[.string ⟨#[]⟩, .string ⟨#[]⟩]) 2 32 Tryz.underlying25 hif hz0 hz1 hz2 rfl (by decide) _ _ _ rfl hown0 ⟨b, off, none⟩ m.length cap (pairVals m) rfl hn0 HC.out (pairVals_oneCell _) hm1 hm2 (le_alloc _ _ (Nat.le_refl _)) ?_)
  intro v1 w1 hown hgrow hnn
  have hnn' : ¬ v1 = .slice none 0 0 := by simpa using hnn
  obtain ⟨g1, cap1, hv, hO1⟩ := ownP_val rfl hsm hnn' (by simpa [pairVals] using hown)
  subst hv
  have hB1 : Below w.heap.size w w1 := hba.grown hgrow (le_alloc _ _ (Nat.le_refl _)) (fun k e => by simp [Value.ownBlock] at e; omega)
  clear hown hgrow hnn hnn' hown0 HC hn0 hm1 hm2 hba
  go_wp2_with (at_builtin; fail)
  go_loopw [5, 13] (fun v i wr => ∃ (k g n cp : Nat), k ≤ l.length ∧ n ≤ m.length + k ∧ i = .int .i64 (k : Int) ∧ v = .slice (some ⟨g, 0, none⟩) n cp ∧ OwnP wr w.heap.size g n cp (applyAll m (l.take k)) ∧ Below w.heap.size w wr) (fun _ i _ => l.length - (intOf i).toNat)
  case atStart => exact ⟨0, g1, _, cap1, Nat.zero_le _, by omega, rfl, rfl, hO1, hB1⟩
  case round =>
    clear hO1 hB1
    obtain ⟨k, g, n, cp, hk, hn, rfl, rfl, hO, hB⟩ := hrel
    by_cases hlt : k < l.length
    · obtain ⟨c0, c1, c2⟩ := (h2.below hB).cells k hlt
      have hpk := hsm2 _ (List.getElem_mem hlt)
      have hki : (k : Int) < (l.length : Int) := by omega
      have HU := Hid.mk' (apply_take m l k hlt)
      have hpl := apply1_length (applyAll m (l.take k)) l[k]
      have hcs := hO.cases
      have hul := hO.1
      have hBA : Below w.heap.size w (wr.alloc (.cells #[.int .i64 l[k].1, .string l[k].2.1, .string l[k].2.2] 101)) := hB.alloc hB.size _
      have hOA : OwnP (wr.alloc (.cells #[.int .i64 l[k].1, .string l[k].2.1, .string l[k].2.2] 101)) w.heap.size g n cp (applyAll m (l.take k)) := hO.below ((Below.refl _ _).alloc (Nat.le_refl _) _)
      generalize l[k] = p at *
      generalize applyAll m (l.take k) = u at *
      obtain ⟨z, key, val⟩ := p
      simp only [] at c0 c1 c2 hpk hBA hOA
      by_cases hz : z = 1
      · subst hz
        have HU2 : Hid (applyAll m (l.take (k + 1)) = putKey key val u) := by show _ = _; rw [HU.out]; rfl
        have hpl2 := (putKey_length key val u).1
        have HP := Hid.mk' (impl_putKey g 0 n cp u key val _ hOA.sl hcs.1 (by omega) hpk.2.1 hpk.2.2)
        clear HU hpl hOA hO hB
        go_wp2_with (at_builtin; fail)
        refine HP.out.mono ?_
        rintro e w5 ⟨g5, n5, cp5, rfl, hO5, hb5⟩
        have hB5 : Below w.heap.size w w5 := hBA.trans (hb5.mono hBA.size)
        have hO5' := hO5.mono (base' := w.heap.size) hBA.size
        rw [← HU2.out] at hO5'
        have hn5 : n5 ≤ m.length + (k + 1) := by have := hO5.1; omega
        have HO5 := Hid.mk' hO5'
        clear hb5 hO5 hO5' hBA c0 c1 c2 HP
        go_wp2_with (at_builtin; fail)
        go_roundw
        case rel => exact ⟨k + 1, g5, n5, cp5, by omega, hn5, by go_num, rfl, HO5.out, hB5⟩
        case measure => simp [intOf]; omega
      · have hb1 : (z == 1) = false := beq_eq_false_iff_ne.2 hz
        by_cases hz2 : z = 2
        · subst hz2
          have HU2 : Hid (applyAll m (l.take (k + 1)) = delKey key u) := by show _ = _; rw [HU.out]; rfl
          have hpl2 : (delKey key u).length ≤ u.length := List.length_filter_le _ _
          have HP := Hid.mk' (impl_delKey g 0 n cp u key _ hOA.sl hcs.1 (by omega) hpk.2.1)
          clear HU hpl hz hOA hO hB
          go_wp2_with (at_builtin; fail)
          refine HP.out.mono ?_
          rintro e w5 ⟨g5, n5, cp5, rfl, hO5, hb5⟩
          have hB5 : Below w.heap.size w w5 := hBA.trans (hb5.mono hBA.size)
          have hO5' := hO5.mono (base' := w.heap.size) hBA.size
          rw [← HU2.out] at hO5'
          have hn5 : n5 ≤ m.length + (k + 1) := by have := hO5.1; omega
          have HO5 := Hid.mk' hO5'
          clear hb5 hO5 hO5' hBA c0 c1 c2 HP
          go_wp2_with (at_builtin; fail)
          go_roundw
          case rel => exact ⟨k + 1, g5, n5, cp5, by omega, hn5, by go_num, rfl, HO5.out, hB5⟩
          case measure => simp [intOf]; omega
        · have hb2 : (z == 2) = false := beq_eq_false_iff_ne.2 hz2
          have HU2 : Hid (applyAll m (l.take (k + 1)) = u) := by show _ = _; rw [HU.out]; unfold apply1; rw [if_neg hz, if_neg hz2]
          clear HU hpl hz hz2 hO hB
          go_wp2_with (at_builtin; fail)
          go_roundw
          case rel => exact ⟨k + 1, g, n, cp, by omega, by omega, by go_num, rfl, by rw [HU2.out]; exact hOA, hBA⟩
          case measure => simp [intOf]; omega
    · have HE : Hid (l.take k = l) := List.take_of_length_le (by omega)
      go_wp2_with (at_builtin; fail)
      go_ret
      rw [HE.out] at hO
      exact ⟨g, n, cp, rfl, hO, hB⟩

end Go.Proofs.YtdeaiefhegjalaaGreat.ords
