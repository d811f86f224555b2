/- The program's deleting of keys: a map counts the keys, and the key is deleted from it. -/
import Derived.Test.YtooiinicnkhlbaaPairC
import Derived.Maps.OwnSet
import Derived.Maps.OwnOps
import Derived.Maps.Views
namespace Go.Proofs.Ytooiinicnkhlbaa.pairs
open Go Go.RowKit Go.Proofs.Ytooiinicnkhlbaa.base
open Go.Maps (Keyed)
open Go.WideMaps (keyOf_string_mk)
set_option linter.unusedVariables false
set_option linter.unusedSimpArgs false

theorem keyLaw : Keyed Try.prog 9 := Maps.string_keyed Try.underlying9
theorem zeroInt (w : World) : (zeroValue 3).run Try.prog w = .ok (.int .i64 0) w := by kernel_rfl

/-! ### how often a key is there -/
def cnt (s : ByteArray) (l : List Pr) : Nat := (l.filter fun p => decide (p.1 = s)).length
theorem cnt_le (s : ByteArray) (l : List Pr) : cnt s l ≤ l.length := List.length_filter_le _ _
theorem cnt_snoc (s : ByteArray) (l : List Pr) (k : Nat) (h : k < l.length) : cnt s (l.take (k + 1)) = cnt s (l.take k) + if s = l[k].1 then 1 else 0 := by
  unfold cnt
  rw [take_snocP l k h, List.filter_append, List.length_append]
  by_cases e : l[k].1 = s
  · simp [List.filter_cons, e]
  · have e' : ¬ s = l[k].1 := fun x => e x.symm
    simp [List.filter_cons, e, e']
theorem cnt_pos (l : List Pr) (k : Nat) (h : k < l.length) : 1 ≤ cnt l[k].1 l := by
  unfold cnt
  exact List.length_pos_of_mem (List.mem_filter.2 ⟨List.getElem_mem h, by simp⟩)
theorem delKey_snoc (key : ByteArray) (l : List Pr) (j : Nat) (h : j < l.length) : delKey key (l.take (j + 1)) = if l[j].1 = key then delKey key (l.take j) else delKey key (l.take j) ++ [l[j]] := by
  have hst := filter_snoc (fun p => decide (p.1 ≠ key)) l j h
  unfold delKey
  rw [hst]
  by_cases e : l[j].1 = key
  · rw [if_pos e]; simp [e]
  · rw [if_neg e]; simp [e]
theorem lit_inj {a b : Int} (h : (DataW.lit (.int .i64 a) : DataW Unit) = .lit (.int .i64 b)) : a = b := by
  cases h; rfl
theorem str_lit_ne {a b : ByteArray} (h : a ≠ b) : (Lit.string a.data.toList) ≠ .string b.data.toList := by
  intro e; apply h; apply bytes_ext; exact Lit.string.inj e

/-- block B is a map that has, at each key, a number -/
def Tally (w : World) (B n : Nat) (f : ByteArray → Nat) : Prop :=
  ∃ D : DataW Unit, w.ownsMap Try.prog 9 (plainElem Try.prog 3) B n D ∧ Maps.IsMap D ∧ ∀ s : ByteArray, D.atKey (.string s.data.toList) (.lit (.int .i64 0)) = .lit (.int .i64 (f s : Int))
theorem tally_made (w : World) : Tally (w.alloc (.map #[] 0)) w.heap.size 0 (fun _ => 0) :=
  ⟨.map [], World.ownsMap_made _ _ _ _, Maps.isMap_empty, fun s => rfl⟩
theorem Tally.below {w w' : World} {B n : Nat} {f : ByteArray → Nat} (h : Tally w B n f) (hb : Below w.heap.size w w') : Tally w' B n f := by
  obtain ⟨D, h1, h2, h3⟩ := h
  exact ⟨D, h1.kept (row := none) ⟨hb.os, hb.tape, hb.output, hb.size, fun k hk _ => hb.block k hk⟩ (by simp), h2, h3⟩
theorem Tally.grown {w w' : World} {B n : Nat} {f : ByteArray → Nat} {row : Option Nat} (h : Tally w B n f) (hg : w.grownBy w' row) (hne : some B ≠ row) : Tally w' B n f := by
  obtain ⟨D, h1, h2, h3⟩ := h
  exact ⟨D, h1.kept hg hne, h2, h3⟩

/-- the element at a key, one more -/
theorem Tally.put {w' : World} {B n : Nat} {f f' : ByteArray → Nat} {D : DataW Unit} {x : ByteArray} (h2 : Maps.IsMap D) (h3 : ∀ s : ByteArray, D.atKey (.string s.data.toList) (.lit (.int .i64 0)) = .lit (.int .i64 (f s : Int))) {v : Int} (hv : v = (f' x : Int)) (ho : ∀ s, s ≠ x → f' s = f s)
    (h1 : w'.ownsMap Try.prog 9 (plainElem Try.prog 3) B n (D.put (.string x.data.toList) (.lit (.int .i64 v)))) : Tally w' B n f' := by
  refine ⟨_, h1, h2.put _ _, fun s => ?_⟩
  by_cases e : s = x
  · subst e
    rw [Maps.atKey_put_same h2 (by trivial), hv]
  · rw [Maps.atKey_put_other (str_lit_ne e), h3, ho s e]

theorem Tally.del {w' : World} {B n : Nat} {f : ByteArray → Nat} {D : DataW Unit} {x : ByteArray} (h2 : Maps.IsMap D) (h3 : ∀ s : ByteArray, D.atKey (.string s.data.toList) (.lit (.int .i64 0)) = .lit (.int .i64 (f s : Int)))
    (h1 : w'.ownsMap Try.prog 9 (plainElem Try.prog 3) B n (D.del (.string x.data.toList))) : Tally w' B n (fun s => if s = x then 0 else f s) := by
  refine ⟨_, h1, h2.del _, fun s => ?_⟩
  by_cases e : s = x
  · subst e
    rw [Maps.atKey_del_same]; simp
  · rw [Maps.atKey_del_other (str_lit_ne e), h3]; simp [e]

set_option maxRecDepth 100000 in
set_option maxHeartbeats 4000000 in
theorem i_without (b off cap : Nat) (l : List Pr) (key : ByteArray) (w : World) (h : SlP w (some ⟨b, off, none⟩) l.length l) (hsz : l.length ≤ 1099511627776) (hkey : key.size ≤ maxLen) :
    Calls Try.prog 94 #[.slice (some ⟨b, off, none⟩) l.length cap, .string key] w fun e w' =>
      ∃ g' n' cap', e = .returned (.slice (some ⟨g', 0, none⟩) n' cap') ∧ OwnP w' w.heap.size g' n' cap' (delKey key l) ∧ Below w.heap.size w w' := by
  obtain ⟨i0, hif, hz0, hz1, hz2⟩ := info_parts infoP
  have hsm := h.2.2.1
  have hmt := i_meth
  have hmm := @run_makeMap Try.prog
  have hkk := keyOf_string_mk (P := Try.prog) Try.underlying9 hkey
  go_enter Try.func94, Try.ntmps94
  go_wp2_with (at_builtin; fail)
  go_loopw [14] (fun i wr => ∃ k : Nat, k ≤ l.length ∧ i = .int .i64 (k : Int) ∧ Tally wr w.heap.size k (fun s => cnt s (l.take k)) ∧ Below w.heap.size w wr) (fun i _ => l.length - (intOf i).toNat)
  case atStart => exact ⟨0, Nat.zero_le _, rfl, tally_made w, (Below.refl _ _).alloc (Nat.le_refl _) _⟩
  case round =>
    obtain ⟨k, hk, rfl, hT, hB⟩ := hrel
    clear hmm
    by_cases hlt : k < l.length
    · obtain ⟨c1, c2⟩ := (h.below hB).cells k hlt
      have hki : (k : Int) < (l.length : Int) := by omega
      have hpk := hsm _ (List.getElem_mem hlt)
      have HS : Hid (∀ s, cnt s (l.take (k + 1)) = cnt s (l.take k) + if s = l[k].1 then 1 else 0) := fun s => cnt_snoc s l k hlt
      have hle := cnt_le l[k].1 (l.take k)
      have hlk : (l.take k).length ≤ k := List.length_take_le _ _
      generalize l[k] = p at *
      have hpkey := keyOf_string_mk (P := Try.prog) Try.underlying9 hpk.1
      go_wp2_with fail
      refine (i_key p _).mono ?_
      rintro e w3 ⟨rfl, hw3⟩
      have hXB : Below wr.heap.size wr w3 := by rw [hw3]; exact ((Below.refl _ _).alloc (Nat.le_refl _) _).alloc (le_alloc _ _ (Nat.le_refl _)) _
      have hB3 : Below w.heap.size w w3 := hB.trans (hXB.mono hB.size)
      obtain ⟨D, hown, hD, hat0⟩ := hT.below hXB
      have HAT := Hid.mk' hat0
      clear hw3 hB hXB hT c1 c2 hat0
      go_wp2_with (at_lookup; refine wpList_lookup_own_int _ rfl _ _ 59 rfl 9 3 .i64 keyLaw Try.underlying59 Try.underlying3 (zeroInt _) w.heap.size k D rfl hown _ _ rfl hpkey ?_)
      intro c hat hwc
      obtain ⟨m, hm⟩ : ∃ m : Nat, m = cnt p.1 (l.take k) := ⟨_, rfl⟩
      obtain rfl : c = (m : Int) := by rw [HAT.out] at hat; rw [hm]; exact (lit_inj hat).symm
      have hmk : m ≤ k := by omega
      have HM := Hid.mk' hm
      clear hat hwc hm
      go_wp2_with (at_mapUpdate; refine wpList_mapUpdate_own _ rfl _ _ _ 59 rfl 9 3 keyLaw Try.underlying59 _ w.heap.size k D rfl hown (by unfold maxLen; omega) _ _ _ rfl rfl hpkey _ [] (plainElem_int Try.underlying3 (WalkArith.wf_i64 (by omega))) ?_)
      intro w4 hown4 hgrow4
      have hT4 : Tally w4 w.heap.size (k + 1) (fun s => cnt s (l.take (k + 1))) := Tally.put hD HAT.out (by rw [HS.out, if_pos rfl, ← HM.out]; simp) (fun s hs => by rw [HS.out, if_neg hs]; simp) hown4
      have hB4 := hB3.grown hgrow4 hB3.size (fun j hj => by cases hj; exact Nat.le_refl _)
      clear hown4 hgrow4 hown HAT hB3 hD
      go_wp2_with fail
      go_roundw
      case rel => exact ⟨k + 1, by omega, by go_num, hT4, hB4⟩
      case measure => simp [intOf]; omega
    · have HE : Hid (l.take k = l) := List.take_of_length_le (by omega)
      rw [HE.out] at hT
      obtain ⟨D, hown, hD, hat0⟩ := hT
      go_wp2_with (at_delete; refine wpList_delete_own _ rfl _ _ 59 9 rfl 3 keyLaw Try.underlying59 _ w.heap.size k D rfl hown _ _ rfl hkk ?_)
      intro w5 hown5 hturn5
      have hT5 := Tally.del hD hat0 hown5
      have hlt5 := hown.lt
      have hB5 := hB.grown hturn5.grown hB.size (fun j hj => by cases hj; exact Nat.le_refl _)
      have hs5 : w.heap.size + 1 ≤ w5.heap.size := Nat.le_trans hlt5 hturn5.grown.size
      clear hown5 hturn5 hown hat0 hD hB hlt5
      go_wp2_with (at_builtin; fail)
      go_loopw [8, 30] (fun v i wr => ∃ (j g n cp : Nat), j ≤ l.length ∧ n ≤ j ∧ i = .int .i64 (j : Int) ∧ v = .slice (some ⟨g, 0, none⟩) n cp ∧ OwnP wr (w.heap.size + 1) g n cp (delKey key (l.take j)) ∧ Tally wr w.heap.size k (fun s => if s = key then 0 else cnt s l) ∧ Below w.heap.size w wr) (fun _ i _ => l.length - (intOf i).toNat)
      case atStart => exact ⟨0, w5.heap.size, 0, 0, Nat.zero_le _, Nat.le_refl _, rfl, rfl, ownP_made w5 _ hs5, hT5.below ((Below.refl _ _).alloc (Nat.le_refl _) _), hB5.alloc hB5.size _⟩
      case round =>
        clear hT5 hB5 hs5
        obtain ⟨j, g, n, cp, hj, hnj, rfl, rfl, hO, hT, hB⟩ := hrel
        by_cases hltj : j < l.length
        · obtain ⟨c1, c2⟩ := (h.below hB).cells j hltj
          have hpk := hsm _ (List.getElem_mem hltj)
          have hki : (j : Int) < (l.length : Int) := by omega
          have hcp := cnt_pos l j hltj
          have hcl := cnt_le l[j].1 l
          have hpkey := keyOf_string_mk (P := Try.prog) Try.underlying9 hpk.1
          have HD := Hid.mk' (delKey_snoc key l j hltj)
          have hc3 : n + 1 ≤ maxLen := by unfold maxLen; omega
          have hc4 : (n + 1) * 32 ≤ 140737488355328 := by omega
          generalize l[j] = p at *
          go_wp2_with fail
          refine (i_key p _).mono ?_
          rintro e w3 ⟨rfl, hw3⟩
          have hX3 : Below (wr.alloc (.cells #[.string p.1, .string p.2] 70)).heap.size (wr.alloc (.cells #[.string p.1, .string p.2] 70)) w3 := by rw [hw3]; exact (Below.refl _ _).alloc (Nat.le_refl _) _
          have hXB : Below wr.heap.size wr w3 := ((Below.refl _ _).alloc (Nat.le_refl _) _).trans (hX3.mono (le_alloc _ _ (Nat.le_refl _)))
          have hB3 : Below w.heap.size w w3 := hB.trans (hXB.mono hB.size)
          have hO3 := hO.below hXB
          have hT3 := hT.below hXB
          obtain ⟨cb0, cb1⟩ := box_cell wr w3 p.1 p.2 hX3
          obtain ⟨D3, hown, hD3, hat0⟩ := hT.below hXB
          have HAT := Hid.mk' hat0
          clear hw3 hO hB hXB hX3 hT c1 c2 hat0
          go_wp2_with (at_lookup; refine wpList_lookup_own_int _ rfl _ _ 59 rfl 9 3 .i64 keyLaw Try.underlying59 Try.underlying3 (zeroInt _) w.heap.size k D3 rfl hown _ _ rfl hpkey ?_)
          intro c hat hwc
          rw [HAT.out] at hat
          have hcv := lit_inj hat
          clear hat hwc hown hD3 HAT
          by_cases he : p.1 = key
          · have hF := HD.out
            rw [if_pos he] at hF
            obtain rfl : c = 0 := by rw [if_pos he] at hcv; exact hcv.symm
            have HF := Hid.mk' hF
            clear hcv HD hF he
            go_wp2_with (at_builtin; fail)
            go_roundw
            case rel => exact ⟨j + 1, g, n, cp, by omega, by omega, by go_num, rfl, by rw [HF.out]; exact hO3, hT3, hB3⟩
            case measure => simp [intOf]; omega
          · have hF := HD.out
            rw [if_neg he] at hF
            rw [if_neg he] at hcv
            have hc0 : 0 < c := by omega
            have hc1 : c ≤ 1099511627776 := by omega
            have HF := Hid.mk' hF
            have hsz3 : w.heap.size + 1 ≤ w3.heap.size := by have := hO3.lt; omega
            clear hcv HD hF he
            go_wp2_with (at_builtin; refine wpList_append_own _ rfl (.tmp 40) (.tmp 42) 72 rfl (w.heap.size + 1) 70 i0 (.agg #[.string ⟨#[]⟩, .string ⟨#[]⟩]) 2 32 Try.underlying72 hif hz0 hz1 hz2 rfl (by decide) _ _ _ rfl (hO3.2.2.alloc _) ⟨w3.heap.size, 0, none⟩ 1 1 (pairVals [p]) rfl rfl (one_pair_cells _ _ _) (pairVals_oneCell _) hc3 hc4 (le_alloc _ _ hsz3) ?_)
            intro v2 w2 hown2 hgrow hnn
            obtain ⟨g2, cp2, hv, hO2⟩ := ownP_app hO3.1 hO3.2.1 hpk hnn hown2
            subst hv
            have hB2 : Below w.heap.size w w2 := (hB3.alloc hB3.size _).grown hgrow (le_alloc _ _ hB3.size) (fun k e => by simp [Value.ownBlock] at e; have := hO3.lt; omega)
            have hT2 := (hT3.below ((Below.refl _ _).alloc (Nat.le_refl _) _)).grown hgrow (by simp [Value.ownBlock]; have := hO3.lt; omega)
            rw [← HF.out] at hO2
            have HO2 := Hid.mk' hO2
            clear hown2 hgrow hnn hO2 hO3 hB3 hT3
            go_wp2_with (at_builtin; fail)
            go_roundw
            case rel => exact ⟨j + 1, g2, n + 1, cp2, by omega, by omega, by go_num, rfl, HO2.out, hT2, hB2⟩
            case measure => simp [intOf]; omega
        · have HE2 : Hid (l.take j = l) := List.take_of_length_le (by omega)
          go_wp2_with (at_builtin; fail)
          go_ret
          rw [HE2.out] at hO
          exact ⟨g, n, cp, rfl, hO.mono (by omega), hB⟩

set_option maxHeartbeats 1000000 in
theorem impl_delKey (b off len cap : Nat) (l : List Pr) (key : ByteArray) (w : World) (h : SlP w (some ⟨b, off, none⟩) len l) (hcap : len ≤ cap) (hsz : len ≤ 1099511627776) (hkey : key.size ≤ maxLen) :
    Calls Try.prog 84 #[.slice (some ⟨b, off, none⟩) len cap, .string key] w fun e w' =>
      ∃ g' n' cap', e = .returned (.slice (some ⟨g', 0, none⟩) n' cap') ∧ OwnP w' w.heap.size g' n' cap' (delKey key l) ∧ Below w.heap.size w w' := by
  have hl := h.1
  subst hl
  have HW := Hid.mk' (i_without b off cap l key w h hsz hkey)
  go_enter Try.func84, Try.ntmps84
  go_wp2_with fail
  refine HW.out.mono ?_
  rintro e w2 ⟨g, n, cp, rfl, hO, hB⟩
  have HO := Hid.mk' hO
  clear hO
  go_wp2_with fail
  go_ret
  exact ⟨g, n, cp, rfl, HO.out, hB⟩

end Go.Proofs.Ytooiinicnkhlbaa.pairs
