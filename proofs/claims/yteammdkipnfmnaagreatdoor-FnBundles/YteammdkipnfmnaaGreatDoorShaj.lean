/- The specification's right pairs, and pairs put into others. The specification's check of an item. Marks on rows of structs. No function of the program is named here. Reading a number: the program's and the specification's GetNum answer as one and the same function. The specification's GetNum answers as the same function. Reading a text: the program's and the specification's GetText answer as one and the same function. Reading a list of texts: the program's and the specification's GetTexts answer as one and the same function. Plain mathematics: numbers and texts come back of their bytes. Plain mathematics of orders: what is told of them, their bytes, and that these come back. Bundles: what is checked. Mathematics, and how rows of proofs are read. The specification's proving of all between. A call inside a region that draws its order, as a law of one step. No function of the program is named here. -/
import Derived.Test.YteammdkipnfmnaaGreatDoorShai
import Derived.Test.YteammdkipnfmnaaGreatDoorShac
import Derived.Test.YteammdkipnfmnaaGreatDoorShag
import Derived.Test.YteammdkipnfmnaaGreatDoorShaf
import Derived.Test.YteammdkipnfmnaaGreatDoorRows
import Derived.Test.YteammdkipnfmnaaGreatDoorShaa
import Derived.Laws.BytesArg
import Derived.Test.YteammdkipnfmnaaGreatDoorShae
import Derived.Test.YteammdkipnfmnaaGreatDoorShah
import Derived.Deep.RegionLaw
import Derived.WalkKit
import Derived.WalkSpells
import Derived.WalkLawsBesides
namespace Go.Proofs.YteammdkipnfmnaaGreatDoor.pairs
open Go Go.RowKit Go.Proofs.YteammdkipnfmnaaGreatDoor.base
set_option linter.unusedVariables false
set_option linter.unusedSimpArgs false

def prevOf (l : List Pr) (k : Nat) : Option ByteArray := if k = 0 then none else (l[k - 1]?).map (·.1)
theorem okFrom_zero (l : List Pr) (k : Nat) (h : k < l.length) (h0 : k = 0) : okFrom (prevOf l k) (l.drop k) = (pairOk l[k] && okFrom (prevOf l (k + 1)) (l.drop (k + 1))) := by
  subst h0
  cases l with
  | nil => simp at h
  | cons p l => simp [prevOf, okFrom]
theorem okFrom_step (l : List Pr) (k : Nat) (h : k < l.length) (h0 : 0 < k) : okFrom (prevOf l k) (l.drop k) = (pairOk l[k] && ltB l[k - 1].1 l[k].1 && okFrom (prevOf l (k + 1)) (l.drop (k + 1))) := by
  have e1 : prevOf l k = some l[k - 1].1 := by unfold prevOf; rw [if_neg (by omega), List.getElem?_eq_getElem (by omega)]; rfl
  have e2 : prevOf l (k + 1) = some l[k].1 := by unfold prevOf; rw [if_neg (by omega), Nat.add_sub_cancel, List.getElem?_eq_getElem h]; rfl
  rw [e1, e2, List.drop_eq_getElem_cons h, okFrom]

theorem keepC {W w' : World} {b o : Nat} {v : Value} (hb : Below W.heap.size W w') (h : W.cell? ⟨b, o, none⟩ = some v) : w'.cell? ⟨b, o, none⟩ = some v :=
  (hb.cell (p := ⟨b, o, none⟩) (World.block_lt_of_cell? W _ h)).trans h
theorem keepB2 {W w' : World} {b o1 o2 : Nat} {v1 v2 : Value} (hb : Below W.heap.size W w') (h : W.cell? ⟨b, o1, none⟩ = some v1 ∧ W.cell? ⟨b, o2, none⟩ = some v2) :
    w'.cell? ⟨b, o1, none⟩ = some v1 ∧ w'.cell? ⟨b, o2, none⟩ = some v2 := ⟨keepC hb h.1, keepC hb h.2⟩
set_option maxRecDepth 100000 in
set_option maxHeartbeats 2000000 in
theorem spec_pairsOk (b off len cap : Nat) (l : List Pr) (w : World) (h : SlP w (some ⟨b, off, none⟩) len l) (hks : ∀ p ∈ l, p.1.size ≤ 1099511627776) :
    Calls Tryz.prog 94 #[.slice (some ⟨b, off, none⟩) len cap] w fun e w' => e = .returned (.bool (pairsOk l)) ∧ Below w.heap.size w w' := by
  have hl := h.1
  have hm := h.2.1
  have hsm := h.2.2.1
  subst hl
  unfold maxLen at hm
  generalize hR : okFrom none l = R
  have HR := Hid.mk' hR
  clear hR
  go_enter Tryz.func94, Tryz.ntmps94
  go_wp2_with fail
  go_loopw [3] (fun i wr => ∃ k : Nat, k ≤ l.length ∧ i = .int .i64 (k : Int) ∧ okFrom (prevOf l k) (l.drop k) = R ∧ Below w.heap.size w wr) (fun i _ => l.length - (intOf i).toNat)
  case atStart => exact ⟨0, Nat.zero_le _, rfl, HR.out, Below.refl _ _⟩
  case round =>
    obtain ⟨k, hk, rfl, hr, hB⟩ := hrel
    by_cases hlt : k < l.length
    · have hS := h.below hB
      obtain ⟨c1, c2⟩ := hS.cells k hlt
      have hbl := hS.lt (by omega)
      have hpk := hsm _ (List.getElem_mem hlt)
      have hks' := hks _ (List.getElem_mem hlt)
      have hki : (k : Int) < (l.length : Int) := by omega
      have hbd : b < wr.drew.heap.size := hbl
      by_cases h0 : k = 0
      · have hst := okFrom_zero l k hlt h0
        rw [hr] at hst
        have hk0 : ¬ (0 : Int) < (k : Int) := by omega
        have hk1 : decide (0 < k) = false := by simp; omega
        have hk2 : decide ((0 : Int) < (k : Int)) = false := by simp; omega
        cases hP : pairOk l[k]
        · have HF : Hid (R = false) := by rw [hP] at hst; exact hst
          have HP := Hid.mk' hP
          clear hst hr hP hS h0
          generalize l[k] = p at *
          have o1 := last.On.cell c1 hbl
          have o2 := last.On.cell c2 hbl
          go_wp2_with fail
          have hinh := last.On.inh wr.heap.size wr
          have hcall : ∀ x : last.On wr.heap.size wr, Calls Tryz.prog 107 #[.agg #[.string p.1, .string p.2]] x.w fun e w' => e = .returned (.bool false) ∧ ∃ y : last.On wr.heap.size wr, w' = y.w := fun x => last.Calls.on x (Nat.le_refl _) (by have := spec_pairOk p x.w hpk hks'; rw [HP.out] at this; exact this)
          refine last.wp_region_on wr.heap.size (by kernel_rfl) (by kernel_rfl) ?_
          repeat (go_big_quiet_step ((go_at_call 107; exact hcall _)))
          refine wpQuiet_nil ?_
          intro w5 hw5
          obtain ⟨x5, hw5⟩ := hw5
          subst hw5
          have hB5 : Below w.heap.size w x5.w := hB.trans (x5.2.mono hB.size)
          go_wp2_with fail
          go_ret
          exact ⟨ret_bool (by unfold pairsOk; rw [HR.out, HF.out]; rfl), hB5⟩
        · have HF : Hid (okFrom (prevOf l (k + 1)) (l.drop (k + 1)) = R) := by show _ = _; rw [hP] at hst; simpa using hst.symm
          have HP := Hid.mk' hP
          clear hst hr hP hS h0
          generalize l[k] = p at *
          have o1 := last.On.cell c1 hbl
          have o2 := last.On.cell c2 hbl
          go_wp2_with fail
          have hinh := last.On.inh wr.heap.size wr
          have hcall : ∀ x : last.On wr.heap.size wr, Calls Tryz.prog 107 #[.agg #[.string p.1, .string p.2]] x.w fun e w' => e = .returned (.bool true) ∧ ∃ y : last.On wr.heap.size wr, w' = y.w := fun x => last.Calls.on x (Nat.le_refl _) (by have := spec_pairOk p x.w hpk hks'; rw [HP.out] at this; exact this)
          refine last.wp_region_on wr.heap.size (by kernel_rfl) (by kernel_rfl) ?_
          repeat (go_big_quiet_step ((go_at_call 107; exact hcall _)))
          refine wpQuiet_nil ?_
          intro w5 hw5
          obtain ⟨x5, hw5⟩ := hw5
          subst hw5
          have hB5 : Below w.heap.size w x5.w := hB.trans (x5.2.mono hB.size)
          go_wp2_with fail
          go_roundw
          case rel => exact ⟨k + 1, by omega, by go_num, HF.out, hB5⟩
          case measure => simp [intOf]; omega
      · have hst := okFrom_step l k hlt (by omega)
        rw [hr] at hst
        have hk0 : (0 : Int) < (k : Int) := by omega
        have hk1 : decide (0 < k) = true := by simp; omega
        have hk2 : decide ((0 : Int) < (k : Int)) = true := by simp; omega
        have c3 := (hS.cells (k - 1) (by omega)).1
        obtain ⟨j, hj⟩ : ∃ j, k - 1 = j := ⟨_, rfl⟩
        have hjw : (k : Int) - 1 = (j : Int) := by omega
        have hjk : (j : Int) < (l.length : Int) := by omega
        generalize l[k - 1].1 = q at *
        rw [hj] at c3
        have o3 := last.On.cell c3 hbl
        cases hP : pairOk l[k]
        · have HF : Hid (R = false) := by rw [hP] at hst; exact hst
          have HP := Hid.mk' hP
          clear hst hr hP hS h0 hj
          generalize l[k] = p at *
          have o1 := last.On.cell c1 hbl
          have o2 := last.On.cell c2 hbl
          go_wp2_with fail
          have hinh := last.On.inh wr.heap.size wr
          have hcall : ∀ x : last.On wr.heap.size wr, Calls Tryz.prog 107 #[.agg #[.string p.1, .string p.2]] x.w fun e w' => e = .returned (.bool false) ∧ ∃ y : last.On wr.heap.size wr, w' = y.w := fun x => last.Calls.on x (Nat.le_refl _) (by have := spec_pairOk p x.w hpk hks'; rw [HP.out] at this; exact this)
          refine last.wp_region_on wr.heap.size (by kernel_rfl) (by kernel_rfl) ?_
          repeat (go_big_quiet_step ((go_at_call 107; exact hcall _)))
          refine wpQuiet_nil ?_
          intro w5 hw5
          obtain ⟨x5, hw5⟩ := hw5
          subst hw5
          have hB5 : Below w.heap.size w x5.w := hB.trans (x5.2.mono hB.size)
          go_wp2_with fail
          go_ret
          exact ⟨ret_bool (by unfold pairsOk; rw [HR.out, HF.out]; rfl), hB5⟩
        · cases hL : ltB q l[k].1
          · have HF : Hid (R = false) := by show _ = _; rw [hP, hL] at hst; simpa using hst
            have HP := Hid.mk' hP
            have hl2 : Op.bytesLess q.toList l[k].1.toList = false := hL
            clear hst hr hP hS h0 hj hL
            generalize l[k] = p at *
            have o1 := last.On.cell c1 hbl
            have o2 := last.On.cell c2 hbl
            go_wp2_with fail
            have hinh := last.On.inh wr.heap.size wr
            have hcall : ∀ x : last.On wr.heap.size wr, Calls Tryz.prog 107 #[.agg #[.string p.1, .string p.2]] x.w fun e w' => e = .returned (.bool true) ∧ ∃ y : last.On wr.heap.size wr, w' = y.w := fun x => last.Calls.on x (Nat.le_refl _) (by have := spec_pairOk p x.w hpk hks'; rw [HP.out] at this; exact this)
            refine last.wp_region_on wr.heap.size (by kernel_rfl) (by kernel_rfl) ?_
            repeat (go_big_quiet_step ((go_at_call 107; exact hcall _)))
            refine wpQuiet_nil ?_
            intro w5 hw5
            obtain ⟨x5, hw5⟩ := hw5
            subst hw5
            have hB5 : Below w.heap.size w x5.w := hB.trans (x5.2.mono hB.size)
            go_wp2_with fail
            go_ret
            exact ⟨ret_bool (by unfold pairsOk; rw [HR.out, HF.out]; rfl), hB5⟩
          · have HF : Hid (okFrom (prevOf l (k + 1)) (l.drop (k + 1)) = R) := by show _ = _; rw [hP, hL] at hst; simpa using hst.symm
            have HP := Hid.mk' hP
            have hl2 : Op.bytesLess q.toList l[k].1.toList = true := hL
            clear hst hr hP hS h0 hj hL
            generalize l[k] = p at *
            have o1 := last.On.cell c1 hbl
            have o2 := last.On.cell c2 hbl
            go_wp2_with fail
            have hinh := last.On.inh wr.heap.size wr
            have hcall : ∀ x : last.On wr.heap.size wr, Calls Tryz.prog 107 #[.agg #[.string p.1, .string p.2]] x.w fun e w' => e = .returned (.bool true) ∧ ∃ y : last.On wr.heap.size wr, w' = y.w := fun x => last.Calls.on x (Nat.le_refl _) (by have := spec_pairOk p x.w hpk hks'; rw [HP.out] at this; exact this)
            refine last.wp_region_on wr.heap.size (by kernel_rfl) (by kernel_rfl) ?_
            repeat (go_big_quiet_step ((go_at_call 107; exact hcall _)))
            refine wpQuiet_nil ?_
            intro w5 hw5
            obtain ⟨x5, hw5⟩ := hw5
            subst hw5
            have hB5 : Below w.heap.size w x5.w := hB.trans (x5.2.mono hB.size)
            go_wp2_with fail
            go_roundw
            case rel => exact ⟨k + 1, by omega, by go_num, HF.out, hB5⟩
            case measure => simp [intOf]; omega
    · have HF : Hid (R = true) := by show _ = _; rw [← hr, List.drop_eq_nil_of_le (by omega)]; cases prevOf l k <;> rfl
      clear hr
      go_wp2_with fail
      go_ret
      exact ⟨ret_bool (by unfold pairsOk; rw [HR.out, HF.out]; simp; omega), hB⟩

end Go.Proofs.YteammdkipnfmnaaGreatDoor.pairs

namespace Go.Proofs.YteammdkipnfmnaaGreatDoor.range
open Go Go.RowKit Go.Proofs.YteammdkipnfmnaaGreatDoor.base Go.Proofs.YteammdkipnfmnaaGreatDoor.pairs Go.Proofs.YteammdkipnfmnaaGreatDoor.tree
set_option linter.unusedVariables false
set_option linter.unusedSimpArgs false

def limI (x : It) : Prop := lim x.1 ∧ ∀ s ∈ x.2, s.size ≤ 137438953472
def ItJ (w : World) (b o : Nat) (x : It) : Prop :=
  w.cell? ⟨b, o, none⟩ = some (.string x.1.1) ∧ w.cell? ⟨b, o + 1, none⟩ = some (.string x.1.2) ∧ ∃ pb po pc, w.cell? ⟨b, o + 2, none⟩ = some (.slice (some ⟨pb, po, none⟩) x.2.length pc) ∧ SlS w (some ⟨pb, po, none⟩) x.2.length x.2 ∧ x.2.length ≤ pc
theorem ItJ.below {w w' : World} {b o : Nat} {x : It} (h : ItJ w b o x) (hb : Below w.heap.size w w') : ItJ w' b o x := by
  have keep : ∀ o v, w.cell? ⟨b, o, none⟩ = some v → w'.cell? ⟨b, o, none⟩ = some v := fun o v hv => (hb.cell (p := ⟨b, o, none⟩) (World.block_lt_of_cell? w _ hv)).trans hv
  obtain ⟨h1, h2, pb, po, pc, h3, h4, h5⟩ := h
  exact ⟨keep _ _ h1, keep _ _ h2, pb, po, pc, keep _ _ h3, h4.below hb, h5⟩
def SlJ (w : World) (a : Option Addr) (len : Nat) (l : List It) : Prop :=
  l.length = len ∧ len ≤ 1099511627776 ∧ (∀ x ∈ l, limI x) ∧ (0 < len → ∃ b off, a = some ⟨b, off, none⟩ ∧ ∀ i (h : i < l.length), ItJ w b (off + i * 3) l[i])
theorem SlJ.below {w w' : World} {a : Option Addr} {len : Nat} {l : List It} (h : SlJ w a len l) (hb : Below w.heap.size w w') : SlJ w' a len l := by
  obtain ⟨h1, h2, h3, h4⟩ := h
  refine ⟨h1, h2, h3, fun h0 => ?_⟩
  obtain ⟨b, off, e, hc⟩ := h4 h0
  exact ⟨b, off, e, fun i hi => (hc i hi).below hb⟩
theorem SlJ.at {w : World} {b off len : Nat} {l : List It} (h : SlJ w (some ⟨b, off, none⟩) len l) (i : Nat) (hi : i < l.length) : ItJ w b (off + i * 3) l[i] := by
  obtain ⟨b', off', e, hc⟩ := h.2.2.2 (by have := h.1; omega)
  simp only [Option.some.injEq, Addr.mk.injEq, and_true] at e
  obtain ⟨rfl, rfl⟩ := e
  exact hc i hi
theorem OwnI.slJ {w : World} {base n cap : Nat} {a : Option Addr} {l : List It} {hs : List Hd} (h : OwnI w base (.slice a n cap) l hs) (hl : l.length ≤ 1099511627776) (hx : ∀ x ∈ l, limI x) : SlJ w a n l := by
  rcases h.shape with ⟨e, rfl, _⟩ | ⟨g, c, e, h1, h2⟩
  · cases e; exact ⟨rfl, Nat.zero_le _, hx, fun h => absurd h (by omega)⟩
  · cases e
    refine ⟨rfl, hl, hx, fun _ => ⟨g, 0, rfl, fun i hi => ?_⟩⟩
    obtain ⟨c1, c2, c3⟩ := h.at i hi
    rw [Nat.zero_add]
    have hp := h.paths i hi
    obtain ⟨yg, yn, yc, hy⟩ : ∃ yg yn yc, (hs[i]'(by have := h.len; omega)) = (yg, yn, yc) := ⟨_, _, _, rfl⟩
    simp only [hy] at c3 hp
    exact ⟨c1, c2, yg, 0, yc, by rw [hp.1]; exact c3, by rw [hp.1]; exact hp.sl, by rw [hp.1]; exact hp.cases.1⟩

def V3 (w : World) (g : Nat) (t : TypeId) (x y z : Value) : Prop := w.heap[g]? = some (.cells #[x, y, z] t (0, 0))
section
variable {w w' : World} {g : Nat} {t : TypeId} {x y z : Value}
theorem V3.c0 (h : V3 w g t x y z) : w.cell? ⟨g, 0, none⟩ = some x := cell_cur h 0 _ rfl
theorem V3.c1 (h : V3 w g t x y z) : w.cell? ⟨g, 1, none⟩ = some y := cell_cur h 1 _ rfl
theorem V3.c2 (h : V3 w g t x y z) : w.cell? ⟨g, 2, none⟩ = some z := cell_cur h 2 _ rfl
theorem V3.lt (h : V3 w g t x y z) : g < w.heap.size := (Array.getElem?_eq_some_iff.1 h).1
theorem V3.below (h : V3 w g t x y z) (hb : Below w.heap.size w w') : V3 w' g t x y z := (hb.block g h.lt).trans h
end

theorem itemOk_parts (root : ByteArray) (n fr : Int) (l : List It) (k : Nat) (hk : k < l.length) : ∃ r : Bool, itemOkAt root ⟨n, fr, l⟩ k = (pairOk l[k].1 && checkPathI l[k].1 (fr + (k : Int)) n l[k].2 root && r) ∧ (k = 0 → r = true) ∧ (∀ j (hj : j < l.length), k = j + 1 → r = ltB l[j].1.1 l[k].1.1) := by
  cases k with
  | zero => exact ⟨true, by rw [itemOk_zero root ⟨n, fr, l⟩ hk]; simp, fun _ => rfl, fun j _ e => by omega⟩
  | succ j => exact ⟨ltB l[j].1.1 l[j + 1].1.1, by rw [itemOk_succ root ⟨n, fr, l⟩ j hk], fun e => by omega, fun i hi e => by
    have e2 : i = j := by omega
    subst e2; rfl⟩

set_option maxRecDepth 100000 in
set_option maxHeartbeats 1000000 in
theorem spec_l5Item (root : ByteArray) (n fr : Int) (b off cap k : Nat) (l : List It) (w : World) (h : SlJ w (some ⟨b, off, none⟩) l.length l) (hk : k < l.length) (hfr : 0 ≤ fr ∧ fr ≤ 60) :
    Calls Tryz.prog 69 #[.string root, .agg #[.int .i64 n, .int .i64 fr, .slice (some ⟨b, off, none⟩) l.length cap], .int .i64 (k : Int)] w fun e w' => e = .returned (.bool (itemOkAt root ⟨n, fr, l⟩ k)) ∧ Below w.heap.size w w' := by
  have hll := h.2.1
  obtain ⟨c1, c2, pb, po, pc, c3, hS, hpc⟩ := h.at k hk
  have hbb : b < w.heap.size := World.block_lt_of_cell? w _ c1
  obtain ⟨hlp, hls⟩ := h.2.2.1 l[k] (List.getElem_mem hk)
  have hki : (k : Int) < (l.length : Int) := by omega
  have hsum : IntKind.i64.wrap (fr + (k : Int)) = fr + (k : Int) := by rw [IntKind.wrap_i64]; omega
  obtain ⟨W0, hW0⟩ : ∃ W, W = w.alloc (.cells #[.int .i64 n, .int .i64 fr, .slice (some ⟨b, off, none⟩) l.length cap] 64) := ⟨_, rfl⟩
  obtain ⟨W, hW⟩ : ∃ W, W = W0.alloc (.cells #[.string l[k].1.1, .string l[k].1.2, .slice (some ⟨pb, po, none⟩) l[k].2.length pc] 107) := ⟨_, rfl⟩
  have hs0 : W0.heap.size = w.heap.size + 1 := by rw [hW0]; simp
  have hB0 : Below w.heap.size w W0 := by rw [hW0]; exact (Below.refl _ _).alloc (Nat.le_refl _) _
  have hB : Below w.heap.size w W := by rw [hW]; exact hB0.alloc hB0.size _
  have hF : V3 W w.heap.size 64 (.int .i64 n) (.int .i64 fr) (.slice (some ⟨b, off, none⟩) l.length cap) := by
    have h0 : V3 W0 w.heap.size 64 (.int .i64 n) (.int .i64 fr) (.slice (some ⟨b, off, none⟩) l.length cap) := by rw [hW0]; exact heap_alloc_new w _
    rw [hW]; exact h0.below ((Below.refl _ _).alloc (Nat.le_refl _) _)
  have hX : V3 W (w.heap.size + 1) 107 (.string l[k].1.1) (.string l[k].1.2) (.slice (some ⟨pb, po, none⟩) l[k].2.length pc) := by
    rw [hW, ← hs0]; exact heap_alloc_new W0 _
  have HW : Hid (((w.alloc (.cells #[.int .i64 n, .int .i64 fr, .slice (some ⟨b, off, none⟩) l.length cap] 64)).alloc (.cells #[.string l[k].1.1, .string l[k].1.2, .slice (some ⟨pb, po, none⟩) l[k].2.length pc] 107)) = W) := by show _ = _; rw [hW, hW0]
  have hPO := spec_pairOk l[k].1 W ⟨by have := hlp.1; unfold maxLen; omega, by have := hlp.2; unfold maxLen; omega⟩ (by have := hlp.1; omega)
  have HCP : Hid (∀ wx, Below w.heap.size w wx → Calls Tryz.prog 108 #[.agg #[.string l[k].1.1, .string l[k].1.2], .int .i64 (fr + (k : Int)), .int .i64 n, .slice (some ⟨pb, po, none⟩) l[k].2.length pc, .string root] wx fun e w' => e = .returned (.bool (checkPathI l[k].1 (fr + (k : Int)) n l[k].2 root)) ∧ Below wx.heap.size wx w') :=
    fun wx hx => spec_checkPath l[k].1 (fr + (k : Int)) n pb po pc l[k].2 root wx hlp (hS.below hx) hls hpc
  obtain ⟨r, hok, hr0, hr1⟩ := itemOk_parts root n fr l k hk
  clear hW hW0 hs0 hB0
  cases hP1 : pairOk l[k].1 with
  | false =>
    rw [hP1] at hPO hok
    have HO : Hid (itemOkAt root ⟨n, fr, l⟩ k = false) := by show _ = _; rw [hok]; simp
    have HPO := Hid.mk' hPO
    clear hPO hok hP1 HCP h hS hr0 hr1
    obtain ⟨x, hx⟩ : ∃ x, l[k] = x := ⟨_, rfl⟩
    simp only [hx] at HPO HW hX c1 c2 c3 hlp hls hpc
    clear hx
    go_enter Tryz.func69, Tryz.ntmps69
    go_wp2_with fail
    rw [HW.out]
    refine HPO.out.mono ?_
    rintro e w1 ⟨rfl, hb1⟩
    have hB1 := hB.trans (hb1.mono hB.size)
    clear HW HPO
    go_wp2_with fail
    go_ret
    exact ⟨ret_bool (by rw [HO.out]), hB1⟩
  | true =>
    rw [hP1] at hPO hok
    have HPO := Hid.mk' hPO
    have HC := Hid.mk' hok
    have HH := Hid.mk' h
    have HR0 := Hid.mk' hr0
    have HR1 := Hid.mk' hr1
    clear hPO hok hP1 hS h hr0 hr1
    obtain ⟨x, hx⟩ : ∃ x, l[k] = x := ⟨_, rfl⟩
    simp only [hx] at HPO HC HCP HW hX c1 c2 c3 hlp hls hpc HR1
    clear hx
    go_enter Tryz.func69, Tryz.ntmps69
    go_wp2_with fail
    rw [HW.out]
    refine HPO.out.mono ?_
    rintro e w1 ⟨rfl, hb1⟩
    have hB1 := hB.trans (hb1.mono hB.size)
    have F1 := hF.below hb1
    have X1 := hX.below hb1
    have a0 := F1.c0
    have a1 := F1.c1
    have x0 := X1.c0
    have x1 := X1.c1
    have x2 := X1.c2
    have HF1 := Hid.mk' F1
    have HX1 := Hid.mk' X1
    have hCP : ∀ I, Hid (I = fr + (k : Int)) → Calls Tryz.prog 108 #[.agg #[.string x.1.1, .string x.1.2], .int .i64 I, .int .i64 n, .slice (some ⟨pb, po, none⟩) x.2.length pc, .string root] w1 fun e w' => e = .returned (.bool (checkPathI x.1 (fr + (k : Int)) n x.2 root)) ∧ Below w1.heap.size w1 w' := fun I hI => by
      have e := hI.out
      subst e
      exact HCP.out w1 hB1
    clear HW HPO hF hX F1 X1 hb1 hB HCP
    cases hCk : checkPathI x.1 (fr + (k : Int)) n x.2 root with
    | false =>
      rw [hCk] at hCP HC
      have HCP := Hid.mk' hCP
      have HO : Hid (itemOkAt root ⟨n, fr, l⟩ k = false) := by show _ = _; rw [HC.out]; simp
      clear hCP HC hCk
      go_wp2_with fail
      refine (HCP.out _ (by show _ = _; omega)).mono ?_
      rintro e w2 ⟨rfl, hb2⟩
      have hB2 := hB1.trans (hb2.mono hB1.size)
      clear HCP a0 a1 x0 x1 x2
      go_wp2_with fail
      go_ret
      exact ⟨ret_bool (by rw [HO.out]), hB2⟩
    | true =>
      rw [hCk] at hCP HC
      have HCP := Hid.mk' hCP
      clear hCP hCk
      by_cases hk0 : k = 0
      · subst hk0
        have HO : Hid (itemOkAt root ⟨n, fr, l⟩ 0 = true) := by show _ = _; rw [HC.out, HR0.out rfl]; rfl
        clear HC
        go_wp2_with fail
        refine (HCP.out _ (by show _ = _; omega)).mono ?_
        rintro e w2 ⟨rfl, hb2⟩
        have hB2 := hB1.trans (hb2.mono hB1.size)
        clear HCP a0 a1 x0 x1 x2
        go_wp2_with fail
        go_quiet (fail)
        go_wp2_with fail
        go_ret
        exact ⟨ret_bool (by rw [HO.out]), below_drewN hB2 _⟩
      · obtain ⟨j, rfl⟩ : ∃ j, k = j + 1 := ⟨k - 1, by omega⟩
        have hj : j < l.length := by omega
        have d1 := (HH.out.at j hj).1
        have HO : Hid (itemOkAt root ⟨n, fr, l⟩ (j + 1) = ltB l[j].1.1 x.1.1) := by show _ = _; rw [HC.out, HR1.out j hj rfl]; simp
        obtain ⟨q, hq⟩ : ∃ q, l[j].1.1 = q := ⟨_, rfl⟩
        rw [hq] at d1 HO
        clear HC hq
        go_wp2_with fail
        refine (HCP.out _ (by show _ = _; omega)).mono ?_
        rintro e w2 ⟨rfl, hb2⟩
        have hB2 := hB1.trans (hb2.mono hB1.size)
        have F2 := HF1.out.below hb2
        have X2 := HX1.out.below hb2
        have e2 := F2.c2
        have y0 := X2.c0
        have d2 := (hB2.cell (p := ⟨b, off + j * 3, none⟩) hbb).trans d1
        have hji : (j : Int) < (l.length : Int) := by omega
        have hkz : ¬ ((j + 1 : Nat) : Int) = 0 := by omega
        have hkz2 : ((j : Int) + 1 == 0) = false := by simp; omega
        have hjw : IntKind.i64.wrap (j : Int) = (j : Int) := by rw [IntKind.wrap_i64]; omega
        have hkm : ((j + 1 : Nat) : Int) - 1 = (j : Int) := by omega
        clear HCP a0 a1 x0 x1 x2 HF1 HX1 F2 X2 d1
        cases hb : ltB q x.1.1 with
        | true =>
          rw [hb] at HO
          have hq : Op.bytesLess q.toList x.1.1.toList = true := hb
          clear hb
          go_wp2_with fail
          go_quiet (fail)
          go_wp2_with fail
          go_ret
          exact ⟨ret_bool (by rw [HO.out]), below_drewN hB2 _⟩
        | false =>
          rw [hb] at HO
          have hq : Op.bytesLess q.toList x.1.1.toList = false := hb
          clear hb
          go_wp2_with fail
          go_quiet (fail)
          go_wp2_with fail
          go_ret
          exact ⟨ret_bool (by rw [HO.out]), below_drewN hB2 _⟩
end Go.Proofs.YteammdkipnfmnaaGreatDoor.range

namespace Go.Proofs.YteammdkipnfmnaaGreatDoor.lay
open Go Go.RowKit Go.Proofs.YteammdkipnfmnaaGreatDoor.base
set_option linter.unusedVariables false
set_option linter.unusedSimpArgs false

section
variable {α : Type}
end
theorem OwnG.open {α : Type} {ty : TypeId} {R : Rd α} {w : World} {g n cap : Nat} {l : List α} {q : Parts} (h : OwnG ty R w (.slice (some ⟨g, 0, none⟩) n cap) l q) (i : Nat) (hi : i < l.length) :
    ∃ us F, R.own w us l[i] F ∧ (∀ j u, us[j]? = some u → w.cell? ⟨g, i * R.size + j, none⟩ = some u) ∧ (∀ k ∈ F, k ∈ blocksOf q) ∧ ∀ (w' : World) (x' : α) (G : List Nat), Frame G w w' → (∀ k ∈ G, k ∈ F) → R.own w' us x' F → OwnG ty R w' (.slice (some ⟨g, 0, none⟩) n cap) (l.set i x') q := by
  have hl := h.len
  have hn := h.nlen
  subst hn
  refine ⟨_, _, h.each i hi, fun j u hj => ?_, fun k hk => List.mem_flatMap.2 ⟨_, List.getElem_mem _, hk⟩, fun w' x' G hf hG hx => h.inner i hi x' hf hG hx⟩
  have hp := h.parts
  have hjl := (List.getElem?_eq_some_iff.1 hj).1
  rw [hp _ (List.getElem_mem _)] at hjl
  have hin : i * R.size + j < l.length * R.size := by
    have := Nat.mul_le_mul_right R.size (show i + 1 ≤ l.length from hi)
    rw [Nat.add_mul] at this; omega
  rw [h.row.cellAt (i * R.size + j) hin, cellsOf_get hp i (by omega) j hjl]
  exact hj
end Go.Proofs.YteammdkipnfmnaaGreatDoor.lay

namespace Go.Proofs.YteammdkipnfmnaaGreatDoor.getnum
open Go.RowKit Go.Proofs.YteammdkipnfmnaaGreatDoor.base Go.Proofs.YteammdkipnfmnaaGreatDoor.help
set_option linter.unusedVariables false
set_option linter.unusedSimpArgs false

end Go.Proofs.YteammdkipnfmnaaGreatDoor.getnum

namespace Go.Proofs.YteammdkipnfmnaaGreatDoor.getnum
open Go.RowKit Go.Proofs.YteammdkipnfmnaaGreatDoor.base Go.Proofs.YteammdkipnfmnaaGreatDoor.help
set_option linter.unusedVariables false
set_option linter.unusedSimpArgs false

end Go.Proofs.YteammdkipnfmnaaGreatDoor.getnum

namespace Go.Proofs.YteammdkipnfmnaaGreatDoor.gettext
open Go.RowKit Go.Proofs.YteammdkipnfmnaaGreatDoor.base Go.Proofs.YteammdkipnfmnaaGreatDoor.help Go.Proofs.YteammdkipnfmnaaGreatDoor.getnum
set_option linter.unusedVariables false
set_option linter.unusedSimpArgs false

end Go.Proofs.YteammdkipnfmnaaGreatDoor.gettext

namespace Go.Proofs.YteammdkipnfmnaaGreatDoor.gettexts
open Go.RowKit Go.Proofs.YteammdkipnfmnaaGreatDoor.base Go.Proofs.YteammdkipnfmnaaGreatDoor.help Go.Proofs.YteammdkipnfmnaaGreatDoor.helps Go.Proofs.YteammdkipnfmnaaGreatDoor.getnum Go.Proofs.YteammdkipnfmnaaGreatDoor.gettext
set_option linter.unusedVariables false
set_option linter.unusedSimpArgs false

end Go.Proofs.YteammdkipnfmnaaGreatDoor.gettexts

namespace Go.Proofs.YteammdkipnfmnaaGreatDoor.nummath
open Go.RowKit Go.Proofs.YteammdkipnfmnaaGreatDoor.base Go.Proofs.YteammdkipnfmnaaGreatDoor.help Go.Proofs.YteammdkipnfmnaaGreatDoor.getnum Go.Proofs.YteammdkipnfmnaaGreatDoor.putnum Go.Proofs.YteammdkipnfmnaaGreatDoor.gettext Go.Proofs.YteammdkipnfmnaaGreatDoor.puttext Go.Proofs.YteammdkipnfmnaaGreatDoor.gettexts Go.Proofs.YteammdkipnfmnaaGreatDoor.puttexts
set_option linter.unusedVariables false
set_option linter.unusedSimpArgs false

end Go.Proofs.YteammdkipnfmnaaGreatDoor.nummath

namespace Go.Proofs.YteammdkipnfmnaaGreatDoor.ords
open Go Go.RowKit Go.Proofs.YteammdkipnfmnaaGreatDoor.base Go.Proofs.YteammdkipnfmnaaGreatDoor.pairs Go.Proofs.YteammdkipnfmnaaGreatDoor.putnum Go.Proofs.YteammdkipnfmnaaGreatDoor.puttext Go.Proofs.YteammdkipnfmnaaGreatDoor.getnum Go.Proofs.YteammdkipnfmnaaGreatDoor.gettext Go.Proofs.YteammdkipnfmnaaGreatDoor.gettexts Go.Proofs.YteammdkipnfmnaaGreatDoor.nummath
set_option linter.unusedVariables false

def shardOf (key : ByteArray) (n : Int) : Int := if n < 1 then 0 else (hashOf key.data.toList : Int) % n
/-! ### orders that are right -/
/-! ### bytes of numbers and texts, read -/
/-! ### orders come back of their bytes -/
/-! ### behind orders -/
/-! ### shards -/
end Go.Proofs.YteammdkipnfmnaaGreatDoor.ords

namespace Go.Proofs.YteammdkipnfmnaaGreatDoor.bun
open Go Go.RowKit Go.Proofs.YteammdkipnfmnaaGreatDoor.base Go.Proofs.YteammdkipnfmnaaGreatDoor.pairs Go.Proofs.YteammdkipnfmnaaGreatDoor.lay Go.Proofs.YteammdkipnfmnaaGreatDoor.range Go.Proofs.YteammdkipnfmnaaGreatDoor.seals
set_option linter.unusedVariables false
set_option linter.unusedSimpArgs false

def partB (n : Nat) (lo hi : ByteArray) (roots : List ByteArray) (proofs : List Pf) (k : Nat) : Option (List Pr) := match roots[k]?, proofs[k]? with
  | some r, some f => match check r lo hi ⟨f.1, f.2.1, f.2.2⟩ with
    | some l => if l.all (fun p => decide (ords.shardOf p.1 (n : Int) = (k : Int))) = true then some l else none
    | none => none
  | _, _ => none
def sumB (n : Nat) (lo hi : ByteArray) (roots : List ByteArray) (proofs : List Pf) : Nat → Option (List Pr)
  | 0 => some []
  | k + 1 => match sumB n lo hi roots proofs k, partB n lo hi roots proofs k with
    | some o, some l => some (unionOf o l)
    | _, _ => none
def checkB (super lo hi : ByteArray) (x : Bun) : Option (List Pr) :=
  if superOf x.1 x.2.1 x.2.2.1 = super ∧ (1 ≤ x.2.2.1.length ∧ x.2.2.1.length ≤ 8) ∧ x.2.2.2.length = x.2.2.1.length then sumB x.2.2.1.length lo hi x.2.2.1 x.2.2.2 x.2.2.1.length else none
section
variable {n : Nat} {lo hi : ByteArray} {roots : List ByteArray} {proofs : List Pf}
theorem partB_at {k : Nat} (h1 : k < roots.length) (h2 : k < proofs.length) : partB n lo hi roots proofs k = match check roots[k] lo hi ⟨proofs[k].1, proofs[k].2.1, proofs[k].2.2⟩ with
    | some l => if l.all (fun p => decide (ords.shardOf p.1 (n : Int) = (k : Int))) = true then some l else none
    | none => none := by
  unfold partB
  rw [List.getElem?_eq_getElem h1, List.getElem?_eq_getElem h2]
theorem sumB_none {k : Nat} (h : partB n lo hi roots proofs k = none) : ∀ m, k < m → sumB n lo hi roots proofs m = none := by
  intro m
  induction m with
  | zero => intro h; omega
  | succ m ih =>
    intro hk
    unfold sumB
    by_cases e : k = m
    · subst e; rw [h]; split <;> simp_all
    · rw [ih (by omega)]
theorem sumB_succ {k : Nat} {o l : List Pr} (h1 : sumB n lo hi roots proofs k = some o) (h2 : partB n lo hi roots proofs k = some l) : sumB n lo hi roots proofs (k + 1) = some (unionOf o l) := by
  show (match sumB n lo hi roots proofs k, partB n lo hi roots proofs k with
    | some o, some l => some (unionOf o l)
    | _, _ => none) = _
  rw [h1, h2]
end
theorem union_len (a b : List Pr) : (unionOf a b).length ≤ a.length + b.length := by
  unfold unionOf
  induction b generalizing a with
  | nil => simp
  | cons p b ih =>
    rw [List.foldl_cons]
    have h1 := ih (putKey p.1 p.2 a)
    have h2 := (putKey_length p.1 p.2 a).1
    simp only [List.length_cons]
    omega
theorem check_len {root lo hi : ByteArray} {f : Prf} {l : List Pr} (h : check root lo hi f = some l) : l.length ≤ f.items.length := by
  unfold check at h
  split at h
  · split at h
    · cases h; exact Nat.zero_le _
    · cases h
  · split at h
    · cases h
    · split at h
      · cases h
      · split at h
        · cases h
        · cases h
          refine Nat.le_trans (List.length_filter_le _ _) ?_
          unfold keysOf
          simp
def PJ (w : World) (a : Option Addr) (n : Nat) (l : List Pf) : Prop :=
  l.length = n ∧ n ≤ maxLen ∧ (0 < n → ∃ b off, a = some ⟨b, off, none⟩ ∧ ∀ i (h : i < l.length), ∃ ia ic, w.cell? ⟨b, off + i * 3, none⟩ = some (.int .i64 l[i].1) ∧ w.cell? ⟨b, off + i * 3 + 1, none⟩ = some (.int .i64 l[i].2.1) ∧ w.cell? ⟨b, off + i * 3 + 2, none⟩ = some (.slice ia l[i].2.2.length ic) ∧ SlJ w ia l[i].2.2.length l[i].2.2 ∧ (Lit.int .i64 l[i].1).wf = true ∧ (Lit.int .i64 l[i].2.1).wf = true)
theorem PJ.below {w w' : World} {a : Option Addr} {n : Nat} {l : List Pf} (h : PJ w a n l) (hb : Below w.heap.size w w') : PJ w' a n l := by
  have keep : ∀ b o v, w.cell? ⟨b, o, none⟩ = some v → w'.cell? ⟨b, o, none⟩ = some v := fun b o v hv => (hb.cell (p := ⟨b, o, none⟩) (World.block_lt_of_cell? w _ hv)).trans hv
  obtain ⟨h1, h2, h3⟩ := h
  refine ⟨h1, h2, fun h0 => ?_⟩
  obtain ⟨b, off, e, hi⟩ := h3 h0
  refine ⟨b, off, e, fun i hl => ?_⟩
  obtain ⟨ia, ic, c0, c1, c2, hs, k1, k2⟩ := hi i hl
  exact ⟨ia, ic, keep _ _ _ c0, keep _ _ _ c1, keep _ _ _ c2, hs.below hb, k1, k2⟩
theorem pj_own {w : World} {v : Value} {a : Option Addr} {n c : Nat} {l : List Pf} {q : Parts} (h : OwnG 64 proofR w (.slice a n c) l q) (hm : ∀ x ∈ l, x.2.2.length ≤ 1099511627776 ∧ ∀ y ∈ x.2.2, limI y) : PJ w a n l := by
  have hs := h.sl
  refine ⟨hs.1, hs.2.1, fun h0 => ?_⟩
  rcases h.shape with ⟨e, rfl, _⟩ | ⟨g, cap, e, _, _⟩
  · have := hs.1; simp at this; omega
  · cases e
    refine ⟨g, 0, rfl, fun i hi => ?_⟩
    obtain ⟨us, F, hx, hc, _, _⟩ := h.open i hi
    obtain ⟨u, rfl, k1, k2, v', hs', e, _, hI⟩ := proof_own.1 hx
    cases e
    have c0 := hc 0 _ rfl
    have c1 := hc 1 _ rfl
    have c2 := hc 2 _ rfl
    simp only [Nat.zero_add, Nat.add_zero] at c0 c1 c2 ⊢
    have hmi := hm l[i] (List.getElem_mem hi)
    rcases hI.shape with ⟨rfl, e2, _⟩ | ⟨g2, cap2, rfl, _, _⟩
    · have hJ := hI.slJ hmi.1 hmi.2
      rw [e2] at hJ ⊢
      exact ⟨none, 0, c0, c1, c2, hJ, k1, k2⟩
    · exact ⟨_, _, c0, c1, c2, hI.slJ hmi.1 hmi.2, k1, k2⟩
end Go.Proofs.YteammdkipnfmnaaGreatDoor.bun

namespace Go.Proofs.YteammdkipnfmnaaGreatDoor.range
open Go Go.RowKit Go.Proofs.YteammdkipnfmnaaGreatDoor.base Go.Proofs.YteammdkipnfmnaaGreatDoor.pairs Go.Proofs.YteammdkipnfmnaaGreatDoor.tree
set_option linter.unusedVariables false
set_option linter.unusedSimpArgs false

theorem ok_lim {l : List Pr} (h : pairsOk l = true) : ∀ p ∈ l, lim p := by
  intro p hp
  have h1 := ((pairsOk_iff l).1 h).1.1 p hp
  unfold pairOk keyOk at h1
  simp only [Bool.and_eq_true, decide_eq_true_eq] at h1
  exact ⟨by omega, by omega⟩

set_option maxRecDepth 100000 in
set_option maxHeartbeats 2000000 in
theorem spec_proveNo (b off cap : Nat) (l : List Pr) (lo hi : ByteArray) (w : World) (h : SlP w (some ⟨b, off, none⟩) l.length l) (hks : ∀ p ∈ l, p.1.size ≤ 1099511627776) (hok : pairsOk l = false) :
    Calls Tryz.prog 54 #[.slice (some ⟨b, off, none⟩) l.length cap, .string lo, .string hi] w fun e w' =>
      e = .returned (.agg #[.int .i64 0, .int .i64 0, .slice none 0 0]) ∧ Below w.heap.size w w' := by
  obtain ⟨w0, hw0⟩ : ∃ w0, w0 = w.alloc (.cells #[.int .i64 0, .int .i64 0, .slice none 0 0] 64) := ⟨_, rfl⟩
  have hba : Below w.heap.size w w0 := by rw [hw0]; exact (Below.refl _ _).alloc (Nat.le_refl _) _
  have hsz : w0.heap.size = w.heap.size + 1 := by rw [hw0]; simp
  have k0 : w0.cell? ⟨w.heap.size, 0, none⟩ = some (.int .i64 0) := by rw [hw0]; simp
  have k1 : w0.cell? ⟨w.heap.size, 1, none⟩ = some (.int .i64 0) := by rw [hw0]; simp
  have k2 : w0.cell? ⟨w.heap.size, 2, none⟩ = some (.slice none 0 0) := by rw [hw0]; simp
  have f0 : ∀ j, w0.frozen? ⟨w.heap.size, j, none⟩ = false := by intro j; rw [hw0]; simp
  have hP := spec_pairsOk b off l.length cap l w0 (h.below hba) hks
  rw [hok] at hP
  have HP := Hid.mk' hP
  clear hP hok
  go_enter Tryz.func54, Tryz.ntmps54
  go_wp2_with fail
  rw [← hw0]
  clear hw0
  refine HP.out.mono ?_
  rintro e w1 ⟨rfl, hb1⟩
  have hlt : w.heap.size < w0.heap.size := by omega
  have c0 := (hb1.cell (p := ⟨w.heap.size, 0, none⟩) hlt).trans k0
  have c1 := (hb1.cell (p := ⟨w.heap.size, 1, none⟩) hlt).trans k1
  have c2 := (hb1.cell (p := ⟨w.heap.size, 2, none⟩) hlt).trans k2
  have z0 := (hb1.frozen (p := ⟨w.heap.size, 0, none⟩) hlt).trans (f0 0)
  have z1 := (hb1.frozen (p := ⟨w.heap.size, 1, none⟩) hlt).trans (f0 1)
  have z2 := (hb1.frozen (p := ⟨w.heap.size, 2, none⟩) hlt).trans (f0 2)
  have hB1 := hba.trans (hb1.mono hba.size)
  clear k0 k1 k2 f0 hsz HP
  go_wp2_with fail
  have hBz := ((hB1.setCell (p := ⟨w.heap.size, 0, none⟩) (Nat.le_refl _) (.int .i64 0)).setCell (p := ⟨w.heap.size, 1, none⟩) (Nat.le_refl _) (.int .i64 0)).setCell (p := ⟨w.heap.size, 2, none⟩) (Nat.le_refl _) (.slice none 0 0)
  refine bodyPost_ret (v := .agg #[.int .i64 0, .int .i64 0, .slice none 0 0]) ?h1 rfl ⟨rfl, hBz⟩
  simp [results, Tryz.results54, go_sem, c0, c1, c2]

end Go.Proofs.YteammdkipnfmnaaGreatDoor.range

namespace Go.Proofs.YteammdkipnfmnaaGreatDoor.stepc
open Go Go.RowKit
theorem step_call_sl {P : Program} {ops : Array Oper} {o : Oper} {a : Act} {w : World} {K : Act → World → Prop} {Q : Exit → Act → World → Prop} {E : Prop} (hgd : o.guard = none) (f : FuncId) (x y : Operand) (ts : Array TypeId)
    (ho : o.op = .call { callee := .value (.func f), args := #[x, y], argTypes := ts }) (hent : ∀ args w, (callFunc f args).run P w = .ok (.enter f args) w)
    (v1 v2 : Value) (h1 : a.eval x = v1) (h2 : a.eval y = v2) (R : Nat → Nat → Nat → World → Prop)
    (hc : Calls P f #[v1, v2] w fun e w' => ∃ g n c, e = .returned (.slice (some ⟨g, 0, none⟩) n c) ∧ R g n c w')
    (h : ∀ g n c w', R g n c w' → K (a.put o.dst (.slice (some ⟨g, 0, none⟩) n c)) w') :
    if Region.wanted o (yielded ops a.tmps) = true then Oper.wp P o a w K Q else E := by
  have hw : Region.wanted o (yielded ops a.tmps) = true := by simp [Region.wanted, hgd]
  rw [if_pos hw]
  unfold Oper.wp execOp
  have hf : a.eval (.func f) = .func (.func f) #[] #[] := rfl
  have hof : (Deferred.ofValue (Value.func (Fn.func f) #[] #[]) #[v1, v2]).run P w = .ok { target := .fn (.func f) #[], args := #[v1, v2] } w := rfl
  simp only [ho, resolve, invoke, Sem.run_bind, List.map_toArray, List.map_cons, List.map_nil, h1, h2, hf, hof, Result.andThen_ok, hent]
  show Calls P f #[v1, v2] w _
  exact hc.mono (fun e w' he => by obtain ⟨g, n, c, rfl, hr⟩ := he; exact h g n c w' hr)
end Go.Proofs.YteammdkipnfmnaaGreatDoor.stepc
