/- PairE RecMap OrdJ RecJ PairD -/
import Derived.Test.YtijplooogplccaaGreatShak
import Derived.Maps.OwnSet
import Derived.Maps.OwnOps
import Derived.Maps.Views
import Derived.Test.YtijplooogplccaaGreatShaj
import Derived.Test.YtijplooogplccaaGreatShad
set_option linter.unusedVariables false
set_option linter.unusedSimpArgs false
namespace Go.Proofs.YtijplooogplccaaGreat
namespace pairs
open Go Go.RowKit base
open Go.Maps (Keyed)
open Go.WideMaps (keyOf_string_mk)
theorem keyLaw : Keyed Tryz.prog 9 := Maps.string_keyed Tryz.underlying9
theorem zeroInt (w : World) : (zeroValue 3).run Tryz.prog w = .ok (.int .i64 0) w := by kernel_rfl
/-! ### how often a key is there -/
def cnt (s : ByteArray) (l : List Pr) : Nat := (l.filter fun p => decide (p.1 = s)).length
theorem cnt_le (s : ByteArray) (l : List Pr) : cnt s l ≤ l.length := List.length_filter_le _ _
theorem cnt_snoc (s : ByteArray) (l : List Pr) (k : Nat) (h : k < l.length) : cnt s (l.take (k + 1)) = cnt s (l.take k) + if s = l[k].1 then 1 else 0 := by
 unfold cnt
 rw [take_snocP l k h, List.filter_append, List.length_append]
 by_cases e : l[k].1 = s
 · simp [List.filter_cons, e]
 · have e' : ¬ s = l[k].1 := fun x => e x.symm
   simp [List.filter_cons, e, e']
theorem cnt_pos (l : List Pr) (k : Nat) (h : k < l.length) : 1 ≤ cnt l[k].1 l := by
 unfold cnt
 exact List.length_pos_of_mem (List.mem_filter.2 ⟨List.getElem_mem h, by simp⟩)
theorem delKey_snoc (key : ByteArray) (l : List Pr) (j : Nat) (h : j < l.length) : delKey key (l.take (j + 1)) = if l[j].1 = key then delKey key (l.take j) else delKey key (l.take j) ++ [l[j]] := by
 have hst := filter_snoc (fun p => decide (p.1 ≠ key)) l j h
 unfold delKey
 rw [hst]
 by_cases e : l[j].1 = key
 · rw [if_pos e]; simp [e]
 · rw [if_neg e]; simp [e]
theorem lit_inj {a b : Int} (h : (DataW.lit (.int .i64 a) : DataW Unit) = .lit (.int .i64 b)) : a = b := by
 cases h; rfl
theorem str_lit_ne {a b : ByteArray} (h : a ≠ b) : (Lit.string a.data.toList) ≠ .string b.data.toList := by
 intro e; apply h; apply bytes_ext; exact Lit.string.inj e
def Tally (w : World) (B n : Nat) (f : ByteArray → Nat) : Prop :=
 ∃ D : DataW Unit, w.ownsMap Tryz.prog 9 (plainElem Tryz.prog 3) B n D ∧ Maps.IsMap D ∧ ∀ s : ByteArray, D.atKey (.string s.data.toList) (.lit (.int .i64 0)) = .lit (.int .i64 (f s : Int))
theorem tally_made (w : World) : Tally (w.alloc (.map #[] 0)) w.heap.size 0 (fun _ => 0) :=
 ⟨.map [], World.ownsMap_made _ _ _ _, Maps.isMap_empty, fun s => rfl⟩
theorem Tally.below {w w' : World} {B n : Nat} {f : ByteArray → Nat} (h : Tally w B n f) (hb : Below w.heap.size w w') : Tally w' B n f := by
 obtain ⟨D, h1, h2, h3⟩ := h
 exact ⟨D, h1.kept (row := none) ⟨hb.os, hb.tape, hb.output, hb.size, fun k hk _ => hb.block k hk⟩ (by simp), h2, h3⟩
theorem Tally.grown {w w' : World} {B n : Nat} {f : ByteArray → Nat} {row : Option Nat} (h : Tally w B n f) (hg : w.grownBy w' row) (hne : some B ≠ row) : Tally w' B n f := by
 obtain ⟨D, h1, h2, h3⟩ := h
 exact ⟨D, h1.kept hg hne, h2, h3⟩
theorem Tally.put {w' : World} {B n : Nat} {f f' : ByteArray → Nat} {D : DataW Unit} {x : ByteArray} (h2 : Maps.IsMap D) (h3 : ∀ s : ByteArray, D.atKey (.string s.data.toList) (.lit (.int .i64 0)) = .lit (.int .i64 (f s : Int))) {v : Int} (hv : v = (f' x : Int)) (ho : ∀ s, s ≠ x → f' s = f s)
 (h1 : w'.ownsMap Tryz.prog 9 (plainElem Tryz.prog 3) B n (D.put (.string x.data.toList) (.lit (.int .i64 v)))) : Tally w' B n f' := by
 refine ⟨_, h1, h2.put _ _, fun s => ?_⟩
 by_cases e : s = x
 · subst e
   rw [Maps.atKey_put_same h2 (by trivial), hv]
 · rw [Maps.atKey_put_other (str_lit_ne e), h3, ho s e]
theorem Tally.del {w' : World} {B n : Nat} {f : ByteArray → Nat} {D : DataW Unit} {x : ByteArray} (h2 : Maps.IsMap D) (h3 : ∀ s : ByteArray, D.atKey (.string s.data.toList) (.lit (.int .i64 0)) = .lit (.int .i64 (f s : Int)))
 (h1 : w'.ownsMap Tryz.prog 9 (plainElem Tryz.prog 3) B n (D.del (.string x.data.toList))) : Tally w' B n (fun s => if s = x then 0 else f s) := by
 refine ⟨_, h1, h2.del _, fun s => ?_⟩
 by_cases e : s = x
 · subst e
   rw [Maps.atKey_del_same]; simp
 · rw [Maps.atKey_del_other (str_lit_ne e), h3]; simp [e]
set_option maxRecDepth 100000 in
set_option maxHeartbeats 4000000 in
theorem i_without (b off cap : Nat) (l : List Pr) (key : ByteArray) (w : World) (h : SlP w (some ⟨b, off, none⟩) l.length l) (hsz : l.length ≤ 1099511627776) (hkey : key.size ≤ maxLen) :
 Calls Tryz.prog 186 #[.slice (some ⟨b, off, none⟩) l.length cap, .string key] w fun e w' =>
  ∃ g' n' cap', e = .returned (.slice (some ⟨g', 0, none⟩) n' cap') ∧ OwnP w' w.heap.size g' n' cap' (delKey key l) ∧ Below w.heap.size w w' := by
 obtain ⟨i0, hif, hz0, hz1, hz2⟩ := info_parts infoP
 have hsm := h.2.2.1
 have hmt := i_meth
 have hmm := @run_makeMap Tryz.prog
 have hkk := keyOf_string_mk (P := Tryz.prog) Tryz.underlying9 hkey
 go_enter Tryz.func186, Tryz.ntmps186
 go_wp2_with (at_builtin; fail)
 go_loopw [14] (fun i wr => ∃ k : Nat, k ≤ l.length ∧ i = .int .i64 (k : Int) ∧ Tally wr w.heap.size k (fun s => cnt s (l.take k)) ∧ Below w.heap.size w wr) (fun i _ => l.length - (intOf i).toNat)
 case atStart => exact ⟨0, Nat.zero_le _, rfl, tally_made w, (Below.refl _ _).alloc (Nat.le_refl _) _⟩
 case round =>
  obtain ⟨k, hk, rfl, hT, hB⟩ := hrel
  clear hmm
  by_cases hlt : k < l.length
  · obtain ⟨c1, c2⟩ := (h.below hB).cells k hlt
    have hki : (k : Int) < (l.length : Int) := by omega
    have hpk := hsm _ (List.getElem_mem hlt)
    have HS : Hid (∀ s, cnt s (l.take (k + 1)) = cnt s (l.take k) + if s = l[k].1 then 1 else 0) := fun s => cnt_snoc s l k hlt
    have hle := cnt_le l[k].1 (l.take k)
    have hlk : (l.take k).length ≤ k := List.length_take_le _ _
    generalize l[k] = p at *
    have hpkey := keyOf_string_mk (P := Tryz.prog) Tryz.underlying9 hpk.1
    go_wp2_with fail
    refine (i_key p _).mono ?_
    rintro e w3 ⟨rfl, hw3⟩
    have hXB : Below wr.heap.size wr w3 := by rw [hw3]; exact ((Below.refl _ _).alloc (Nat.le_refl _) _).alloc (le_alloc _ _ (Nat.le_refl _)) _
    have hB3 : Below w.heap.size w w3 := hB.trans (hXB.mono hB.size)
    obtain ⟨D, hown, hD, hat0⟩ := hT.below hXB
    have HAT := Hid.mk' hat0
    clear hw3 hB hXB hT c1 c2 hat0
    go_wp2_with (at_lookup; refine wpList_lookup_own_int _ rfl _ _ 229 rfl 9 3 .i64 keyLaw Tryz.underlying229 Tryz.underlying3 (zeroInt _) w.heap.size k D rfl hown _ _ rfl hpkey ?_)
    intro c hat hwc
    obtain ⟨m, hm⟩ : ∃ m : Nat, m = cnt p.1 (l.take k) := ⟨_, rfl⟩
    obtain rfl : c = (m : Int) := by rw [HAT.out] at hat; rw [hm]; exact (lit_inj hat).symm
    have hmk : m ≤ k := by omega
    have HM := Hid.mk' hm
    clear hat hwc hm
    go_wp2_with (at_mapUpdate; refine wpList_mapUpdate_own _ rfl _ _ _ 229 rfl 9 3 keyLaw Tryz.underlying229 _ w.heap.size k D rfl hown (by unfold maxLen; omega) _ _ _ rfl rfl hpkey _ [] (plainElem_int Tryz.underlying3 (WalkArith.wf_i64 (by omega))) ?_)
    intro w4 hown4 hgrow4
    have hT4 : Tally w4 w.heap.size (k + 1) (fun s => cnt s (l.take (k + 1))) := Tally.put hD HAT.out (by rw [HS.out, if_pos rfl, ← HM.out]; simp) (fun s hs => by rw [HS.out, if_neg hs]; simp) hown4
    have hB4 := hB3.grown hgrow4 hB3.size (fun j hj => by cases hj; exact Nat.le_refl _)
    clear hown4 hgrow4 hown HAT hB3 hD
    go_wp2_with fail
    go_roundw
    case rel => exact ⟨k + 1, by omega, by go_num, hT4, hB4⟩
    case measure => simp [intOf]; omega
  · have HE : Hid (l.take k = l) := List.take_of_length_le (by omega)
    rw [HE.out] at hT
    obtain ⟨D, hown, hD, hat0⟩ := hT
    go_wp2_with (at_delete; refine wpList_delete_own _ rfl _ _ 229 9 rfl 3 keyLaw Tryz.underlying229 _ w.heap.size k D rfl hown _ _ rfl hkk ?_)
    intro w5 hown5 hturn5
    have hT5 := Tally.del hD hat0 hown5
    have hlt5 := hown.lt
    have hB5 := hB.grown hturn5.grown hB.size (fun j hj => by cases hj; exact Nat.le_refl _)
    have hs5 : w.heap.size + 1 ≤ w5.heap.size := Nat.le_trans hlt5 hturn5.grown.size
    clear hown5 hturn5 hown hat0 hD hB hlt5
    go_wp2_with (at_builtin; fail)
    go_loopw [8, 30] (fun v i wr => ∃ (j g n cp : Nat), j ≤ l.length ∧ n ≤ j ∧ i = .int .i64 (j : Int) ∧ v = .slice (some ⟨g, 0, none⟩) n cp ∧ OwnP wr (w.heap.size + 1) g n cp (delKey key (l.take j)) ∧ Tally wr w.heap.size k (fun s => if s = key then 0 else cnt s l) ∧ Below w.heap.size w wr) (fun _ i _ => l.length - (intOf i).toNat)
    case atStart => exact ⟨0, w5.heap.size, 0, 0, Nat.zero_le _, Nat.le_refl _, rfl, rfl, ownP_made w5 _ hs5, hT5.below ((Below.refl _ _).alloc (Nat.le_refl _) _), hB5.alloc hB5.size _⟩
    case round =>
     clear hT5 hB5 hs5
     obtain ⟨j, g, n, cp, hj, hnj, rfl, rfl, hO, hT, hB⟩ := hrel
     by_cases hltj : j < l.length
     · obtain ⟨c1, c2⟩ := (h.below hB).cells j hltj
       have hpk := hsm _ (List.getElem_mem hltj)
       have hki : (j : Int) < (l.length : Int) := by omega
       have hcp := cnt_pos l j hltj
       have hcl := cnt_le l[j].1 l
       have hpkey := keyOf_string_mk (P := Tryz.prog) Tryz.underlying9 hpk.1
       have HD := Hid.mk' (delKey_snoc key l j hltj)
       have hc3 : n + 1 ≤ maxLen := by unfold maxLen; omega
       have hc4 : (n + 1) * 32 ≤ 140737488355328 := by omega
       generalize l[j] = p at *
       go_wp2_with fail
       refine (i_key p _).mono ?_
       rintro e w3 ⟨rfl, hw3⟩
       have hX3 : Below (wr.alloc (.cells #[.string p.1, .string p.2] 151)).heap.size (wr.alloc (.cells #[.string p.1, .string p.2] 151)) w3 := by rw [hw3]; exact (Below.refl _ _).alloc (Nat.le_refl _) _
       have hXB : Below wr.heap.size wr w3 := ((Below.refl _ _).alloc (Nat.le_refl _) _).trans (hX3.mono (le_alloc _ _ (Nat.le_refl _)))
       have hB3 : Below w.heap.size w w3 := hB.trans (hXB.mono hB.size)
       have hO3 := hO.below hXB
       have hT3 := hT.below hXB
       obtain ⟨cb0, cb1⟩ := box_cell wr w3 p.1 p.2 hX3
       obtain ⟨D3, hown, hD3, hat0⟩ := hT.below hXB
       have HAT := Hid.mk' hat0
       clear hw3 hO hB hXB hX3 hT c1 c2 hat0
       go_wp2_with (at_lookup; refine wpList_lookup_own_int _ rfl _ _ 229 rfl 9 3 .i64 keyLaw Tryz.underlying229 Tryz.underlying3 (zeroInt _) w.heap.size k D3 rfl hown _ _ rfl hpkey ?_)
       intro c hat hwc
       rw [HAT.out] at hat
       have hcv := lit_inj hat
       clear hat hwc hown hD3 HAT
       by_cases he : p.1 = key
       · have hF := HD.out
         rw [if_pos he] at hF
         obtain rfl : c = 0 := by rw [if_pos he] at hcv; exact hcv.symm
         have HF := Hid.mk' hF
         clear hcv HD hF he
         go_wp2_with (at_builtin; fail)
         go_roundw
         case rel => exact ⟨j + 1, g, n, cp, by omega, by omega, by go_num, rfl, by rw [HF.out]; exact hO3, hT3, hB3⟩
         case measure => simp [intOf]; omega
       · have hF := HD.out
         rw [if_neg he] at hF
         rw [if_neg he] at hcv
         have hc0 : 0 < c := by omega
         have hc1 : c ≤ 1099511627776 := by omega
         have HF := Hid.mk' hF
         have hsz3 : w.heap.size + 1 ≤ w3.heap.size := by have := hO3.lt; omega
         clear hcv HD hF he
         go_wp2_with (at_builtin; refine wpList_append_own _ rfl (.tmp 40) (.tmp 42) 257 rfl (w.heap.size + 1) 151 i0 (.agg #[.string ⟨#[]⟩, .string ⟨#[]⟩]) 2 32 Tryz.underlying257 hif hz0 hz1 hz2 rfl (by decide) _ _ _ rfl (hO3.2.2.alloc _) ⟨w3.heap.size, 0, none⟩ 1 1 (pairVals [p]) rfl rfl (one_pair_cells _ _ _) (pairVals_oneCell _) hc3 hc4 (le_alloc _ _ hsz3) ?_)
         intro v2 w2 hown2 hgrow hnn
         obtain ⟨g2, cp2, hv, hO2⟩ := ownP_app hO3.1 hO3.2.1 hpk hnn hown2
         subst hv
         have hB2 : Below w.heap.size w w2 := (hB3.alloc hB3.size _).grown hgrow (le_alloc _ _ hB3.size) (fun k e => by simp [Value.ownBlock] at e; have := hO3.lt; omega)
         have hT2 := (hT3.below ((Below.refl _ _).alloc (Nat.le_refl _) _)).grown hgrow (by simp [Value.ownBlock]; have := hO3.lt; omega)
         rw [← HF.out] at hO2
         have HO2 := Hid.mk' hO2
         clear hown2 hgrow hnn hO2 hO3 hB3 hT3
         go_wp2_with (at_builtin; fail)
         go_roundw
         case rel => exact ⟨j + 1, g2, n + 1, cp2, by omega, by omega, by go_num, rfl, HO2.out, hT2, hB2⟩
         case measure => simp [intOf]; omega
     · have HE2 : Hid (l.take j = l) := List.take_of_length_le (by omega)
       go_wp2_with (at_builtin; fail)
       go_ret
       rw [HE2.out] at hO
       exact ⟨g, n, cp, rfl, hO.mono (by omega), hB⟩
set_option maxHeartbeats 1000000 in
theorem impl_delKey (b off len cap : Nat) (l : List Pr) (key : ByteArray) (w : World) (h : SlP w (some ⟨b, off, none⟩) len l) (hcap : len ≤ cap) (hsz : len ≤ 1099511627776) (hkey : key.size ≤ maxLen) :
 Calls Tryz.prog 171 #[.slice (some ⟨b, off, none⟩) len cap, .string key] w fun e w' =>
  ∃ g' n' cap', e = .returned (.slice (some ⟨g', 0, none⟩) n' cap') ∧ OwnP w' w.heap.size g' n' cap' (delKey key l) ∧ Below w.heap.size w w' := by
 have hl := h.1
 subst hl
 have HW := Hid.mk' (i_without b off cap l key w h hsz hkey)
 go_enter Tryz.func171, Tryz.ntmps171
 go_wp2_with fail
 refine HW.out.mono ?_
 rintro e w2 ⟨g, n, cp, rfl, hO, hB⟩
 have HO := Hid.mk' hO
 clear hO
 go_wp2_with fail
 go_ret
 exact ⟨g, n, cp, rfl, HO.out, hB⟩
end pairs
namespace recs
open Go Go.RowKit base pairs ords
open Go.ChangeMaps Go.MapKept
open Go.Maps (keyOf_int_mk)
theorem intLawR : Go.Maps.Keyed Tryz.prog 3 := Maps.int_keyed Tryz.underlying3
def codeA : Option Addr → List (DataW Unit)
 | none => []
 | some ⟨b, o, _⟩ => [.lit (.int .i64 (b : Int)), .lit (.int .i64 (o : Int))]
def codeR (k t : Int) (a : Option Addr) (n c : Nat) : DataW Unit := .agg ([.lit (.int .i64 k), .lit (.int .i64 t), .lit (.int .i64 (n : Int)), .lit (.int .i64 (c : Int))] ++ codeA a)
def recL : List Value → Option (DataW Unit × List MemPlace)
 | [.int .i64 k, .int .i64 t, .slice none n c] => some (codeR k t none n c, [])
 | [.int .i64 k, .int .i64 t, .slice (some ⟨b, o, none⟩) n c] => some (codeR k t (some ⟨b, o, none⟩) n c, [])
 | _ => none
def recE : Value → Option (DataW Unit × List MemPlace)
 | .agg xs => recL xs.toList
 | _ => none
def Plain (a : Option Addr) : Prop := a = none ∨ ∃ b o, a = some ⟨b, o, none⟩
theorem recE_mk (k t : Int) {a : Option Addr} (n c : Nat) (h : Plain a) : recE (.agg #[.int .i64 k, .int .i64 t, .slice a n c]) = some (codeR k t a n c, []) := by
 rcases h with rfl | ⟨b, o, rfl⟩ <;> rfl
theorem codeR_inj {k t k' t' : Int} {a a' : Option Addr} {n c n' c' : Nat} (ha : Plain a) (ha' : Plain a') (h : codeR k t a n c = codeR k' t' a' n' c') : k = k' ∧ t = t' ∧ a = a' ∧ n = n' ∧ c = c' := by
 unfold codeR at h
 have h1 := DataW.agg.inj h
 rcases ha with rfl | ⟨b, o, rfl⟩ <;> rcases ha' with rfl | ⟨b', o', rfl⟩ <;> simp [codeA] at h1 ⊢ <;> omega
theorem recE_inv {v : Value} {z : DataW Unit × List MemPlace} (h : recE v = some z) : ∃ k t a n c, Plain a ∧ v = .agg #[.int .i64 k, .int .i64 t, .slice a n c] ∧ z = (codeR k t a n c, []) := by
 unfold recE at h
 split at h
 · next xs =>
   unfold recL at h
   split at h
   · next k t n c e =>
     cases h
     exact ⟨k, t, none, n, c, .inl rfl, by rw [← e], rfl⟩
   · next k t b o n c e =>
     cases h
     exact ⟨k, t, some ⟨b, o, none⟩, n, c, .inr ⟨b, o, rfl⟩, by rw [← e], rfl⟩
   · cases h
 · cases h
theorem zeroRec (w : World) : (zeroValue 133).run Tryz.prog w = .ok (.agg #[.int .i64 0, .int .i64 0, .slice none 0 0]) w := by kernel_rfl
def Lasts (w0 w : World) (B n : Nat) (f : Int → Rc) : Prop :=
 ∃ D : DataW Unit, w.ownsMap Tryz.prog 3 recE B n D ∧ Maps.IsMap D ∧
  ∀ s : Int, (Lit.int .i64 s).wf = true → ∃ a m c, Plain a ∧ SlO w0 a m (f s).2.2 ∧ D.atKey (.int .i64 s) (codeR 0 0 none 0 0) = codeR (f s).1 (f s).2.1 a m c
theorem lasts_made (w0 w : World) : Lasts w0 (w.alloc (.map #[] 0)) w.heap.size 0 (fun _ => (0, 0, [])) :=
 ⟨.map [], World.ownsMap_made _ _ _ _, Maps.isMap_empty, fun s _ => ⟨none, 0, 0, .inl rfl, slo_nil _ _, rfl⟩⟩
section
variable {w0 w w' : World} {B n : Nat} {f : Int → Rc}
theorem Lasts.lt (h : Lasts w0 w B n f) : B < w.heap.size := by
 obtain ⟨D, ⟨es, clock, hb, _⟩, _⟩ := h
 exact (Array.getElem?_eq_some_iff.1 hb).1
theorem Lasts.keep (h : Lasts w0 w B n f) (hb : w'.heap[B]? = w.heap[B]?) : Lasts w0 w' B n f := by
 obtain ⟨D, ⟨es, clock, h1, h2⟩, h3, h4⟩ := h
 exact ⟨D, ⟨es, clock, hb.trans h1, h2⟩, h3, h4⟩
theorem Lasts.below (h : Lasts w0 w B n f) (hb : Below w.heap.size w w') : Lasts w0 w' B n f := h.keep (hb.block B h.lt)
theorem Lasts.grown {row : Option Nat} (h : Lasts w0 w B n f) (hg : w.grownBy w' row) (hne : some B ≠ row) : Lasts w0 w' B n f := h.keep (hg.block B h.lt hne)
theorem Lasts.look (h : Lasts w0 w B n f) {s : Int} (hs : (Lit.int .i64 s).wf = true) : ∃ a m c, Plain a ∧ SlO w0 a m (f s).2.2 ∧ ∀ w2 : World, w2.heap[B]? = w.heap[B]? → (Instr.lookup 228 (.map (some B)) (.int .i64 s) false).run Tryz.prog w2 = .ok (.agg #[.int .i64 (f s).1, .int .i64 (f s).2.1, .slice a m c]) w2 := by
 obtain ⟨D, ⟨es, clock, hb, F, hn, rfl⟩, h3, h4⟩ := h
 obtain ⟨a, m, c, h5, h6, h7⟩ := h4 s hs
 have hkey := keyOf_int_mk (P := Tryz.prog) Tryz.underlying3 hs
 refine ⟨a, m, c, h5, h6, fun w2 hw2 => ?_⟩
 rcases Maps.fit_look false intLawR Tryz.underlying228 (zeroRec w2) (hw2.trans hb) F hkey with ⟨hrun, _, hat⟩ | ⟨e0, y, _, _, hrun, hRv, hat, _⟩
 · rw [hat] at h7
   obtain ⟨e1, e2, e3, e4, e5⟩ := codeR_inj (.inl rfl) h5 h7
   rw [hrun, ← e1, ← e2, ← e3, ← e4, ← e5]; rfl
 · rw [hat] at h7
   obtain ⟨k', t', a', n', c', hp, hv, hz⟩ := recE_inv hRv
   rw [hz] at h7
   obtain ⟨e1, e2, e3, e4, e5⟩ := codeR_inj hp h5 h7
   rw [hrun, hv, ← e1, ← e2, ← e3, ← e4, ← e5]; rfl
def updR (f : Int → Rc) (s : Int) (r : Rc) (t : Int) : Rc := if t = s then r else f t
theorem Lasts.store (h : Lasts w0 w B n f) (hn : n < maxLen) {s : Int} (hs : (Lit.int .i64 s).wf = true) {r : Rc} {a : Option Addr} {m c : Nat} (ha : Plain a) (hS : SlO w0 a m r.2.2) :
 ∃ w2, (Instr.mapUpdate 228 (.map (some B)) (.int .i64 s) (.agg #[.int .i64 r.1, .int .i64 r.2.1, .slice a m c])).run Tryz.prog w = .ok () w2 ∧ Lasts w0 w2 B (n + 1) (updR f s r) ∧ w.grownBy w2 (some B) := by
 obtain ⟨D, h1, h3, h4⟩ := h
 have hkey := keyOf_int_mk (P := Tryz.prog) Tryz.underlying3 hs
 obtain ⟨w2, hrun, hown, hturn⟩ := h1.store intLawR Tryz.underlying228 hn hkey (recE_mk r.1 r.2.1 m c ha)
 refine ⟨w2, hrun, ⟨_, hown, h3.put _ _, fun t ht => ?_⟩, hturn.grown⟩
 unfold updR
 by_cases e : t = s
 · subst e
   rw [if_pos rfl]
   exact ⟨a, m, c, ha, hS, Maps.atKey_put_same h3 (by trivial) _ _⟩
 · rw [if_neg e]
   obtain ⟨a', m', c', h5, h6, h7⟩ := h4 t ht
   exact ⟨a', m', c', h5, h6, by rw [Maps.atKey_put_other (by intro e2; exact e (by cases e2; rfl)), h7]⟩
end
theorem wpList_store_last {w0 w : World} {ops : Array Oper} {rest : List Oper} {o : Oper} {a : Act} {Q : Exit → Act → World → Prop} (hg : o.guard = none) (m x v : Operand) (hop : o.op = Op.mapUpdate 228 m x v)
 {B n : Nat} {f : Int → Rc} (hm : a.eval m = .map (some B)) (h : Lasts w0 w B n f) (hn : n < maxLen) {s : Int} (hx : a.eval x = .int .i64 s) (hs : (Lit.int .i64 s).wf = true) {r : Rc} {ad : Option Addr} {mm c : Nat} (hv : a.eval v = .agg #[.int .i64 r.1, .int .i64 r.2.1, .slice ad mm c]) (ha : Plain ad) (hS : SlO w0 ad mm r.2.2)
 (hK : ∀ w2, Lasts w0 w2 B (n + 1) (updR f s r) → w.grownBy w2 (some B) → wpList Tryz.prog ops Q rest (a.put o.dst undef) w2) : wpList Tryz.prog ops Q (o :: rest) a w := by
 refine wpList_plain hg fun K' hK' => ?_
 obtain ⟨w2, hrun, r1, r2⟩ := h.store hn hs (c := c) ha hS
 unfold Oper.wp
 simp [execOp, hop, hm, hx, hv, hrun, Result.andThen]
 exact hK' _ _ (hK w2 r1 r2)
end recs
namespace ords
open Go Go.RowKit base pairs
/-! ### orders that rise -/
def riseOB : List Od → Bool
 | [] => true
 | p :: l => (match l.head? with | none => true | some q => ltB p.2.1 q.2.1) && riseOB l
theorem opsFrom_some (k : ByteArray) (l : List Od) : opsFrom (some k) l = ((match l.head? with | none => true | some q => ltB k q.2.1) && l.all odOk && riseOB l) := by
 induction l generalizing k with
 | nil => rfl
 | cons p l ih =>
  simp only [opsFrom, ih, List.head?_cons, List.all_cons, riseOB]
  cases odOk p <;> cases ltB k p.2.1 <;> cases l.all odOk <;> cases riseOB l <;> simp
theorem opsFrom_split (l : List Od) : opsFrom none l = (l.all odOk && riseOB l) := by
 cases l with
 | nil => rfl
 | cons p l =>
  simp only [opsFrom, opsFrom_some, List.all_cons, riseOB]
  cases odOk p <;> cases l.all odOk <;> cases riseOB l <;> simp
theorem riseOB_step (l : List Od) (j : Nat) (h1 : 1 ≤ j) (h : j < l.length) : riseOB (l.drop (j - 1)) = (ltB l[j - 1].2.1 l[j].2.1 && riseOB (l.drop j)) := by
 rw [List.drop_eq_getElem_cons (by omega : j - 1 < l.length), riseOB, show j - 1 + 1 = j by omega, List.head?_drop, List.getElem?_eq_getElem h]
theorem riseOB_end (l : List Od) (j : Nat) (h : l.length ≤ j) : riseOB (l.drop (j - 1)) = true := by
 by_cases h2 : j - 1 < l.length
 · rw [List.drop_eq_getElem_cons h2, riseOB, List.drop_eq_nil_of_le (by omega)]; rfl
 · rw [List.drop_eq_nil_of_le (by omega)]; rfl
theorem all_dropO (l : List Od) (k : Nat) (h : k < l.length) : (l.drop k).all odOk = (odOk l[k] && (l.drop (k + 1)).all odOk) := by
 rw [List.drop_eq_getElem_cons h, List.all_cons]
set_option maxHeartbeats 400000 in
theorem i_keyO (p : Od) (w : World) :
 Calls Tryz.prog 213 #[.agg #[.int .i64 p.1, .string p.2.1, .string p.2.2]] w fun e w' => e = .returned (.string p.2.1) ∧ w' = w.alloc (.cells #[.int .i64 p.1, .string p.2.1, .string p.2.2] 126) := by
 go_enter Tryz.func213, Tryz.ntmps213
 go_wp2
 go_ret
 exact ⟨rfl, rfl⟩
theorem i_methO (z : Int) (x y : ByteArray) (w : World) : (method 388 126 (.agg #[.int .i64 z, .string x, .string y]) "loop.example/g00244/impl.key").run Tryz.prog w = .ok (213, .agg #[.int .i64 z, .string x, .string y]) w := by kernel_rfl
set_option maxRecDepth 100000 in
set_option maxHeartbeats 1000000 in
theorem i_opOk (o : Od) (w : World) (ho : smallO o) (hs : o.2.1.size ≤ 1099511627776) :
 Calls Tryz.prog 102 #[.agg #[.int .i64 o.1, .string o.2.1, .string o.2.2]] w fun e w' => e = .returned (.bool (odOk o)) ∧ Below w.heap.size w w' := by
 obtain ⟨z, k, v⟩ := o
 have h2 := ho.2
 simp only [] at h2 hs ⊢
 have hba : Below w.heap.size w (w.alloc (.cells #[.int .i64 z, .string k, .string v] 126)) := (Below.refl _ _).alloc (Nat.le_refl _) _
 have HK := Hid.mk' (impl_keyOk k (w.alloc (.cells #[.int .i64 z, .string k, .string v] 126)) hs)
 have HP := Hid.mk' (impl_pairOk (k, v) (w.alloc (.cells #[.int .i64 z, .string k, .string v] 126)) h2 hs)
 by_cases hz1 : z = 1
 · subst hz1
   have HR : Hid (odOk (1, k, v) = pairOk (k, v)) := by show _ = _; unfold odOk pairOk; simp
   generalize pairOk (k, v) = K at *
   clear HK ho h2 hs
   go_enter Tryz.func102, Tryz.ntmps102
   go_wp2_with fail
   refine HP.out.mono ?_
   rintro e w1 ⟨rfl, hb1⟩
   go_wp2_with fail
   go_ret
   exact ⟨ret_bool HR.out.symm, hba.trans (hb1.mono hba.size)⟩
 by_cases hz3 : z = 3
 · subst hz3
   have HR : Hid (odOk (3, k, v) = pairOk (k, v)) := by show _ = _; unfold odOk pairOk; simp
   generalize pairOk (k, v) = K at *
   clear HK ho h2 hs
   go_enter Tryz.func102, Tryz.ntmps102
   go_wp2_with fail
   refine HP.out.mono ?_
   rintro e w1 ⟨rfl, hb1⟩
   go_wp2_with fail
   go_ret
   exact ⟨ret_bool HR.out.symm, hba.trans (hb1.mono hba.size)⟩
 have hb1 : (z == 1) = false := beq_eq_false_iff_ne.2 hz1
 have hb3 : (z == 3) = false := beq_eq_false_iff_ne.2 hz3
 by_cases hz2 : z = 2
 · subst hz2
   clear HP hz1 hz3 ho h2 hs hb1 hb3
   by_cases hv : v.size = 0
   · have HR : Hid (odOk (2, k, v) = keyOk k) := by show _ = _; unfold odOk; simp [hv]
     obtain rfl := size_empty hv
     clear hv
     generalize keyOk k = K at *
     cases K
     all_goals
      go_enter Tryz.func102, Tryz.ntmps102
      go_wp2_with fail
      refine HK.out.mono ?_
      rintro e w1 ⟨rfl, hb1⟩
      have hc := bcell hb1
      go_wp2_with fail
      go_ret
      exact ⟨ret_bool HR.out.symm, hba.trans (hb1.mono hba.size)⟩
   · have HR : Hid (odOk (2, k, v) = false) := by show _ = _; unfold odOk; simp [hv]
     obtain ⟨hq, hq2⟩ := not_empty hv
     clear hv
     generalize keyOk k = K at *
     cases K
     all_goals
      go_enter Tryz.func102, Tryz.ntmps102
      go_wp2_with fail
      refine HK.out.mono ?_
      rintro e w1 ⟨rfl, hb1⟩
      have hc := bcell hb1
      go_wp2_with fail
      go_ret
      exact ⟨ret_bool HR.out.symm, hba.trans (hb1.mono hba.size)⟩
 · have hb2 : (z == 2) = false := beq_eq_false_iff_ne.2 hz2
   have HR : Hid (odOk (z, k, v) = false) := by
    show _ = _
    unfold odOk
    rw [decide_eq_false (by simp only []; omega)]; rfl
   clear HP HK hz1 hz2 hz3 ho h2 hs
   go_enter Tryz.func102, Tryz.ntmps102
   go_wp2_with fail
   go_ret
   exact ⟨ret_bool HR.out.symm, hba⟩
set_option maxRecDepth 100000 in
set_option maxHeartbeats 2000000 in
theorem i_risesO (b off cap : Nat) (l : List Od) (w : World) (h : SlO w (some ⟨b, off, none⟩) l.length l) (hsz : l.length ≤ 1099511627776) :
 Calls Tryz.prog 103 #[.slice (some ⟨b, off, none⟩) l.length cap] w fun e w' => e = .returned (.bool (riseOB l)) ∧ Below w.heap.size w w' := by
 have hmt := i_methO
 generalize hR : riseOB l = R
 have HR := Hid.mk' hR
 clear hR
 go_enter Tryz.func103, Tryz.ntmps103
 go_wp2_with fail
 go_loopw [3] (fun i wr => ∃ j : Nat, 1 ≤ j ∧ j ≤ l.length + 1 ∧ i = .int .i64 (j : Int) ∧ riseOB (l.drop (j - 1)) = R ∧ Below w.heap.size w wr) (fun i _ => l.length + 1 - (intOf i).toNat)
 case atStart => exact ⟨1, Nat.le_refl _, by omega, rfl, HR.out, Below.refl _ _⟩
 case round =>
  obtain ⟨j, hj1, hj2, rfl, hr, hB⟩ := hrel
  by_cases hlt : j < l.length
  · have hS := h.below hB
    have hbl := hS.lt (by omega)
    have hst := riseOB_step l j hj1 hlt
    rw [hr] at hst
    obtain ⟨c1, c2, c5⟩ := hS.cells j hlt
    obtain ⟨c3, c4, c6⟩ := hS.cells (j - 1) (by omega)
    have hji : (j : Int) < (l.length : Int) := by omega
    obtain ⟨k, hk⟩ : ∃ k, j - 1 = k := ⟨_, rfl⟩
    have hkw : (j : Int) - 1 = (k : Int) := by omega
    have hki : (k : Int) < (l.length : Int) := by omega
    have hne : Op.bytesLess l[j - 1].2.1.toList l[j].2.1.toList = ltB l[j - 1].2.1 l[j].2.1 := rfl
    generalize l[j] = p at *
    generalize l[j - 1] = q at *
    rw [hk] at c3 c4 c6
    have o1 := last.On.cell c1 hbl
    have o2 := last.On.cell c2 hbl
    have o3 := last.On.cell c3 hbl
    have o4 := last.On.cell c4 hbl
    have o5 := last.On.cell c5 hbl
    have o6 := last.On.cell c6 hbl
    cases hL : ltB q.2.1 p.2.1
    all_goals
     rw [hL] at hst hne
     have HST := Hid.mk' hst
     clear hst hr hL hS hk
     go_wp2_with fail
     have hinh := last.On.inh wr.heap.size wr
     have hc1 : ∀ x : last.On wr.heap.size wr, Calls Tryz.prog 213 #[.agg #[.int .i64 p.1, .string p.2.1, .string p.2.2]] x.w fun e w' => e = .returned (.string p.2.1) ∧ ∃ y : last.On wr.heap.size wr, w' = y.w := fun x => last.Calls.on x (Nat.le_refl _) ((i_keyO p x.w).mono fun e w' ⟨he, hw⟩ => ⟨he, by rw [hw]; exact (Below.refl _ _).alloc (Nat.le_refl _) _⟩)
     have hc2 : ∀ x : last.On wr.heap.size wr, Calls Tryz.prog 213 #[.agg #[.int .i64 q.1, .string q.2.1, .string q.2.2]] x.w fun e w' => e = .returned (.string q.2.1) ∧ ∃ y : last.On wr.heap.size wr, w' = y.w := fun x => last.Calls.on x (Nat.le_refl _) ((i_keyO q x.w).mono fun e w' ⟨he, hw⟩ => ⟨he, by rw [hw]; exact (Below.refl _ _).alloc (Nat.le_refl _) _⟩)
     refine last.wp_region_on wr.heap.size (by kernel_rfl) (by kernel_rfl) ?_
     repeat (go_big_quiet_step ((go_at_call 213; first | exact hc1 _ | exact hc2 _)))
     refine wpQuiet_nil ?_
     intro w5 hw5
     obtain ⟨x5, hw5⟩ := hw5
     subst hw5
     have hB5 : Below w.heap.size w x5.w := hB.trans (x5.2.mono hB.size)
     go_wp2_with fail
    · go_ret
      exact ⟨ret_bool (by rw [HST.out]; rfl), hB5⟩
    · go_roundw
      case rel => exact ⟨j + 1, by omega, by omega, by go_num, by rw [HST.out]; simp, hB5⟩
      case measure => simp [intOf]; omega
  · have HF : Hid (R = true) := by show _ = _; rw [← hr]; exact riseOB_end l j (by omega)
    clear hr
    go_wp2_with fail
    go_ret
    exact ⟨ret_bool (by rw [HF.out]), hB⟩
set_option maxRecDepth 100000 in
set_option maxHeartbeats 2000000 in
theorem impl_opsOk (b off len cap : Nat) (l : List Od) (w : World) (h : SlO w (some ⟨b, off, none⟩) len l) (hks : ∀ p ∈ l, p.2.1.size ≤ 1099511627776) :
 Calls Tryz.prog 63 #[.slice (some ⟨b, off, none⟩) len cap] w fun e w' => e = .returned (.bool (opsOk l)) ∧ Below w.heap.size w w' := by
 have hl := h.1
 have hm := h.2.1
 have hsm := h.2.2.1
 subst hl
 unfold maxLen at hm
 by_cases h1 : l.length < 1
 · go_enter Tryz.func63, Tryz.ntmps63
   go_wp2_with fail
   go_ret
   exact ⟨ret_bool (by unfold opsOk; rw [decide_eq_false (by omega : ¬ (1 ≤ l.length ∧ l.length ≤ 8))]; simp), Below.refl _ _⟩
 by_cases h8 : 8 < l.length
 · go_enter Tryz.func63, Tryz.ntmps63
   go_wp2_with fail
   go_ret
   exact ⟨ret_bool (by unfold opsOk; rw [decide_eq_false (by omega : ¬ (1 ≤ l.length ∧ l.length ≤ 8))]; simp), Below.refl _ _⟩
 · have HP : Hid (opsOk l = (l.all odOk && riseOB l)) := by show _ = _; unfold opsOk; rw [opsFrom_split, decide_eq_true (by omega : 1 ≤ l.length ∧ l.length ≤ 8)]; simp
   generalize hA : l.all odOk = A
   have HA := Hid.mk' hA
   clear hA
   go_enter Tryz.func63, Tryz.ntmps63
   go_wp2_with fail
   go_loopw [15] (fun i wr => ∃ k : Nat, k ≤ l.length ∧ i = .int .i64 (k : Int) ∧ (l.drop k).all odOk = A ∧ Below w.heap.size w wr) (fun i _ => l.length - (intOf i).toNat)
   case atStart => exact ⟨0, Nat.zero_le _, rfl, HA.out, Below.refl _ _⟩
   case round =>
    obtain ⟨k, hk, rfl, hr, hB⟩ := hrel
    by_cases hlt : k < l.length
    · obtain ⟨c1, c2, c3⟩ := (h.below hB).cells k hlt
      have hpk := hsm _ (List.getElem_mem hlt)
      have hks' := hks _ (List.getElem_mem hlt)
      have hki : (k : Int) < (l.length : Int) := by omega
      have hst := all_dropO l k hlt
      rw [hr] at hst
      have hcall := fun wx => i_opOk l[k] wx hpk hks'
      have hBA : Below w.heap.size w (wr.alloc (.cells #[.int .i64 l[k].1, .string l[k].2.1, .string l[k].2.2] 126)) := hB.alloc hB.size _
      generalize l[k] = p at *
      cases hP : odOk p
      all_goals
       rw [hP] at hst hcall
       have HST := Hid.mk' hst
       have HC := Hid.mk' hcall
       clear hst hr hcall hP
       go_wp2_with fail
       refine (HC.out _).mono ?_
       rintro e w3 ⟨rfl, hb3⟩
       have hB3 : Below w.heap.size w w3 := hBA.trans (hb3.mono hBA.size)
       clear hb3 hBA hB c1 c2 c3
       go_wp2_with fail
      · go_ret
        exact ⟨ret_bool (by rw [HP.out, HA.out, HST.out]; rfl), hB3⟩
      · go_roundw
        case rel => exact ⟨k + 1, by omega, by go_num, by rw [HST.out]; simp, hB3⟩
        case measure => simp [intOf]; omega
    · have HF : Hid (A = true) := by show _ = _; rw [← hr, List.drop_eq_nil_of_le (by omega)]; rfl
      have HI := Hid.mk' (i_risesO b off cap l wr (h.below hB) (by omega))
      clear hr
      go_wp2_with fail
      refine HI.out.mono ?_
      rintro e w3 ⟨rfl, hb3⟩
      have hB3 : Below w.heap.size w w3 := hB.trans (hb3.mono hB.size)
      clear hb3
      go_wp2_with fail
      go_ret
      exact ⟨ret_bool (by rw [HP.out, HA.out, HF.out]; simp), hB3⟩
end ords
namespace recs
open Go Go.RowKit base pairs ords
theorem impl_opsOkA (a : Option Addr) (len cap : Nat) (l : List Od) (w : World) (h : SlO w a len l) (hks : ∀ p ∈ l, p.2.1.size ≤ 1099511627776) :
 Calls Tryz.prog 63 #[.slice a len cap] w fun e w' => e = .returned (.bool (opsOk l)) ∧ Below w.heap.size w w' := by
 by_cases h0 : len = 0
 · subst h0
   obtain rfl : l = [] := List.eq_nil_of_length_eq_zero h.1
   go_enter Tryz.func63, Tryz.ntmps63
   go_wp2_with fail
   go_ret
   exact ⟨ret_bool (by decide), Below.refl _ _⟩
 · obtain ⟨b, off, ha, _⟩ := h.2.2.2 (by omega)
   subst ha
   exact impl_opsOk b off len cap l w h hks
set_option maxRecDepth 100000 in
set_option maxHeartbeats 2000000 in
theorem impl_recOk (kind tx : Int) (a : Option Addr) (len cap : Nat) (l : List Od) (w : World) (h : SlO w a len l) (hks : ∀ p ∈ l, p.2.1.size ≤ 1099511627776) :
 Calls Tryz.prog 161 #[.agg #[.int .i64 kind, .int .i64 tx, .slice a len cap]] w fun e w' => e = .returned (.bool (recOk (kind, tx, l))) ∧ Below w.heap.size w w' := by
 have hba : Below w.heap.size w (w.alloc (.cells #[.int .i64 kind, .int .i64 tx, .slice a len cap] 133)) := (Below.refl _ _).alloc (Nat.le_refl _) _
 have hl := h.1
 have hm := h.2.1
 unfold maxLen at hm
 by_cases ht : 1 ≤ tx ∧ tx ≤ 1000000
 · have HR : Hid (recOk (kind, tx, l) = if kind = 1 then opsOk l else decide (kind = 2 ∨ kind = 3) && l.isEmpty) := by show _ = _; unfold recOk; rw [decide_eq_true ht]; simp
   have ht1 : ¬ tx < 1 := by omega
   have ht2 : ¬ 1000000 < tx := by omega
   clear ht
   by_cases h1 : kind = 1
   · subst h1
     have HO := Hid.mk' (impl_opsOkA a len cap l _ (h.below hba) hks)
     rw [if_pos rfl] at HR
     generalize opsOk l = K at *
     go_enter Tryz.func161, Tryz.ntmps161
     go_wp2_with fail
     refine HO.out.mono ?_
     rintro e w1 ⟨rfl, hb1⟩
     go_wp2_with fail
     go_ret
     exact ⟨ret_bool HR.out.symm, hba.trans (hb1.mono hba.size)⟩
   · rw [if_neg h1] at HR
     have hk1 : (kind == 1) = false := beq_eq_false_iff_ne.2 h1
     by_cases h23 : kind = 2 ∨ kind = 3
     · rw [decide_eq_true h23, Bool.true_and] at HR
       by_cases h0 : len = 0
       · have HE : Hid (recOk (kind, tx, l) = true) := by show _ = _; rw [HR.out, List.isEmpty_iff]; exact List.eq_nil_of_length_eq_zero (by omega)
         subst h0
         rcases h23 with rfl | rfl
         all_goals
          clear HR h1 hk1
          go_enter Tryz.func161, Tryz.ntmps161
          go_wp2_with fail
          go_ret
          exact ⟨ret_bool HE.out.symm, hba⟩
       · have HE : Hid (recOk (kind, tx, l) = false) := by
          show _ = _
          rw [HR.out]
          cases l with
          | nil => simp at hl; omega
          | cons x l => rfl
         have hl0 : ((len : Int) == 0) = false := by simp; omega
         rcases h23 with rfl | rfl
         all_goals
          clear HR h1 hk1
          go_enter Tryz.func161, Tryz.ntmps161
          go_wp2_with fail
          go_ret
          exact ⟨ret_bool HE.out.symm, hba⟩
     · rw [decide_eq_false h23, Bool.false_and] at HR
       have hk2 : (kind == 2) = false := beq_eq_false_iff_ne.2 (fun e => h23 (.inl e))
       have hk3 : (kind == 3) = false := beq_eq_false_iff_ne.2 (fun e => h23 (.inr e))
       clear h1 h23
       go_enter Tryz.func161, Tryz.ntmps161
       go_wp2_with fail
       go_ret
       exact ⟨ret_bool HR.out.symm, hba⟩
 · have HR : Hid (recOk (kind, tx, l) = false) := by show _ = _; unfold recOk; rw [decide_eq_false ht]; rfl
   by_cases ht1 : tx < 1
   · clear ht
     go_enter Tryz.func161, Tryz.ntmps161
     go_wp2_with fail
     go_ret
     exact ⟨ret_bool HR.out.symm, hba⟩
   · have ht2 : 1000000 < tx := by omega
     clear ht
     go_enter Tryz.func161, Tryz.ntmps161
     go_wp2_with fail
     go_ret
     exact ⟨ret_bool HR.out.symm, hba⟩
end recs
namespace pairs
open Go Go.RowKit base
end pairs
end Go.Proofs.YtijplooogplccaaGreat
