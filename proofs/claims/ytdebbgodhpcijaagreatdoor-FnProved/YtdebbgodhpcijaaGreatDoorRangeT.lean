/- The specification's check of an item. The specification's check of a proof. A call inside a region that draws its order, as a law of one step. No function of the program is named here. The specification's proving of all between. -/
import Derived.Test.YtdebbgodhpcijaaGreatDoorItemQ
import Derived.Test.YtdebbgodhpcijaaGreatDoorTreeQ
import Derived.Test.YtdebbgodhpcijaaGreatDoorPairQ
import Derived.Deep.RegionLaw
import Derived.WalkKit
import Derived.WalkSpells
import Derived.WalkLawsBesides
namespace Go.Proofs.YtdebbgodhpcijaaGreatDoor.range
open Go Go.RowKit Go.Proofs.YtdebbgodhpcijaaGreatDoor.base Go.Proofs.YtdebbgodhpcijaaGreatDoor.pairs Go.Proofs.YtdebbgodhpcijaaGreatDoor.tree
set_option linter.unusedVariables false
set_option linter.unusedSimpArgs false

def limI (x : It) : Prop := lim x.1 ∧ ∀ s ∈ x.2, s.size ≤ 137438953472
/-- the three cells of an item whose path is no nil slice -/
def ItJ (w : World) (b o : Nat) (x : It) : Prop :=
  w.cell? ⟨b, o, none⟩ = some (.string x.1.1) ∧ w.cell? ⟨b, o + 1, none⟩ = some (.string x.1.2) ∧ ∃ pb po pc, w.cell? ⟨b, o + 2, none⟩ = some (.slice (some ⟨pb, po, none⟩) x.2.length pc) ∧ SlS w (some ⟨pb, po, none⟩) x.2.length x.2 ∧ x.2.length ≤ pc
theorem ItJ.below {w w' : World} {b o : Nat} {x : It} (h : ItJ w b o x) (hb : Below w.heap.size w w') : ItJ w' b o x := by
  have keep : ∀ o v, w.cell? ⟨b, o, none⟩ = some v → w'.cell? ⟨b, o, none⟩ = some v := fun o v hv => (hb.cell (p := ⟨b, o, none⟩) (World.block_lt_of_cell? w _ hv)).trans hv
  obtain ⟨h1, h2, pb, po, pc, h3, h4, h5⟩ := h
  exact ⟨keep _ _ h1, keep _ _ h2, pb, po, pc, keep _ _ h3, h4.below hb, h5⟩
/-- a slice of items, none of whose paths is nil -/
def SlJ (w : World) (a : Option Addr) (len : Nat) (l : List It) : Prop :=
  l.length = len ∧ len ≤ 1099511627776 ∧ (∀ x ∈ l, limI x) ∧ (0 < len → ∃ b off, a = some ⟨b, off, none⟩ ∧ ∀ i (h : i < l.length), ItJ w b (off + i * 3) l[i])
theorem SlJ.below {w w' : World} {a : Option Addr} {len : Nat} {l : List It} (h : SlJ w a len l) (hb : Below w.heap.size w w') : SlJ w' a len l := by
  obtain ⟨h1, h2, h3, h4⟩ := h
  refine ⟨h1, h2, h3, fun h0 => ?_⟩
  obtain ⟨b, off, e, hc⟩ := h4 h0
  exact ⟨b, off, e, fun i hi => (hc i hi).below hb⟩
theorem SlJ.at {w : World} {b off len : Nat} {l : List It} (h : SlJ w (some ⟨b, off, none⟩) len l) (i : Nat) (hi : i < l.length) : ItJ w b (off + i * 3) l[i] := by
  obtain ⟨b', off', e, hc⟩ := h.2.2.2 (by have := h.1; omega)
  simp only [Option.some.injEq, Addr.mk.injEq, and_true] at e
  obtain ⟨rfl, rfl⟩ := e
  exact hc i hi
theorem OwnI.slJ {w : World} {base n cap : Nat} {a : Option Addr} {l : List It} {hs : List Hd} (h : OwnI w base (.slice a n cap) l hs) (hl : l.length ≤ 1099511627776) (hx : ∀ x ∈ l, limI x) : SlJ w a n l := by
  rcases h.shape with ⟨e, rfl, _⟩ | ⟨g, c, e, h1, h2⟩
  · cases e; exact ⟨rfl, Nat.zero_le _, hx, fun h => absurd h (by omega)⟩
  · cases e
    refine ⟨rfl, hl, hx, fun _ => ⟨g, 0, rfl, fun i hi => ?_⟩⟩
    obtain ⟨c1, c2, c3⟩ := h.at i hi
    rw [Nat.zero_add]
    have hp := h.paths i hi
    obtain ⟨yg, yn, yc, hy⟩ : ∃ yg yn yc, (hs[i]'(by have := h.len; omega)) = (yg, yn, yc) := ⟨_, _, _, rfl⟩
    simp only [hy] at c3 hp
    exact ⟨c1, c2, yg, 0, yc, by rw [hp.1]; exact c3, by rw [hp.1]; exact hp.sl, by rw [hp.1]; exact hp.cases.1⟩

/-- a block of three cells -/
def V3 (w : World) (g : Nat) (t : TypeId) (x y z : Value) : Prop := w.heap[g]? = some (.cells #[x, y, z] t (0, 0))
section
variable {w w' : World} {g : Nat} {t : TypeId} {x y z : Value}
theorem V3.c0 (h : V3 w g t x y z) : w.cell? ⟨g, 0, none⟩ = some x := cell_cur h 0 _ rfl
theorem V3.c1 (h : V3 w g t x y z) : w.cell? ⟨g, 1, none⟩ = some y := cell_cur h 1 _ rfl
theorem V3.c2 (h : V3 w g t x y z) : w.cell? ⟨g, 2, none⟩ = some z := cell_cur h 2 _ rfl
theorem V3.lt (h : V3 w g t x y z) : g < w.heap.size := (Array.getElem?_eq_some_iff.1 h).1
theorem V3.below (h : V3 w g t x y z) (hb : Below w.heap.size w w') : V3 w' g t x y z := (hb.block g h.lt).trans h
end

theorem itemOk_parts (root : ByteArray) (n fr : Int) (l : List It) (k : Nat) (hk : k < l.length) : ∃ r : Bool, itemOkAt root ⟨n, fr, l⟩ k = (pairOk l[k].1 && checkPathI l[k].1 (fr + (k : Int)) n l[k].2 root && r) ∧ (k = 0 → r = true) ∧ (∀ j (hj : j < l.length), k = j + 1 → r = ltB l[j].1.1 l[k].1.1) := by
  cases k with
  | zero => exact ⟨true, by rw [itemOk_zero root ⟨n, fr, l⟩ hk]; simp, fun _ => rfl, fun j _ e => by omega⟩
  | succ j => exact ⟨ltB l[j].1.1 l[j + 1].1.1, by rw [itemOk_succ root ⟨n, fr, l⟩ j hk], fun e => by omega, fun i hi e => by
    have e2 : i = j := by omega
    subst e2; rfl⟩

set_option maxRecDepth 100000 in
set_option maxHeartbeats 1000000 in
theorem spec_l5Item (root : ByteArray) (n fr : Int) (b off cap k : Nat) (l : List It) (w : World) (h : SlJ w (some ⟨b, off, none⟩) l.length l) (hk : k < l.length) (hfr : 0 ≤ fr ∧ fr ≤ 60) :
    Calls Tryz.prog 34 #[.string root, .agg #[.int .i64 n, .int .i64 fr, .slice (some ⟨b, off, none⟩) l.length cap], .int .i64 (k : Int)] w fun e w' => e = .returned (.bool (itemOkAt root ⟨n, fr, l⟩ k)) ∧ Below w.heap.size w w' := by
  have hll := h.2.1
  obtain ⟨c1, c2, pb, po, pc, c3, hS, hpc⟩ := h.at k hk
  have hbb : b < w.heap.size := World.block_lt_of_cell? w _ c1
  obtain ⟨hlp, hls⟩ := h.2.2.1 l[k] (List.getElem_mem hk)
  have hki : (k : Int) < (l.length : Int) := by omega
  have hsum : IntKind.i64.wrap (fr + (k : Int)) = fr + (k : Int) := by rw [IntKind.wrap_i64]; omega
  obtain ⟨W0, hW0⟩ : ∃ W, W = w.alloc (.cells #[.int .i64 n, .int .i64 fr, .slice (some ⟨b, off, none⟩) l.length cap] 27) := ⟨_, rfl⟩
  obtain ⟨W, hW⟩ : ∃ W, W = W0.alloc (.cells #[.string l[k].1.1, .string l[k].1.2, .slice (some ⟨pb, po, none⟩) l[k].2.length pc] 61) := ⟨_, rfl⟩
  have hs0 : W0.heap.size = w.heap.size + 1 := by rw [hW0]; simp
  have hB0 : Below w.heap.size w W0 := by rw [hW0]; exact (Below.refl _ _).alloc (Nat.le_refl _) _
  have hB : Below w.heap.size w W := by rw [hW]; exact hB0.alloc hB0.size _
  have hF : V3 W w.heap.size 27 (.int .i64 n) (.int .i64 fr) (.slice (some ⟨b, off, none⟩) l.length cap) := by
    have h0 : V3 W0 w.heap.size 27 (.int .i64 n) (.int .i64 fr) (.slice (some ⟨b, off, none⟩) l.length cap) := by rw [hW0]; exact heap_alloc_new w _
    rw [hW]; exact h0.below ((Below.refl _ _).alloc (Nat.le_refl _) _)
  have hX : V3 W (w.heap.size + 1) 61 (.string l[k].1.1) (.string l[k].1.2) (.slice (some ⟨pb, po, none⟩) l[k].2.length pc) := by
    rw [hW, ← hs0]; exact heap_alloc_new W0 _
  have HW : Hid (((w.alloc (.cells #[.int .i64 n, .int .i64 fr, .slice (some ⟨b, off, none⟩) l.length cap] 27)).alloc (.cells #[.string l[k].1.1, .string l[k].1.2, .slice (some ⟨pb, po, none⟩) l[k].2.length pc] 61)) = W) := by show _ = _; rw [hW, hW0]
  have hPO := spec_pairOk l[k].1 W ⟨by have := hlp.1; unfold maxLen; omega, by have := hlp.2; unfold maxLen; omega⟩ (by have := hlp.1; omega)
  have HCP : Hid (∀ wx, Below w.heap.size w wx → Calls Tryz.prog 67 #[.agg #[.string l[k].1.1, .string l[k].1.2], .int .i64 (fr + (k : Int)), .int .i64 n, .slice (some ⟨pb, po, none⟩) l[k].2.length pc, .string root] wx fun e w' => e = .returned (.bool (checkPathI l[k].1 (fr + (k : Int)) n l[k].2 root)) ∧ Below wx.heap.size wx w') :=
    fun wx hx => spec_checkPath l[k].1 (fr + (k : Int)) n pb po pc l[k].2 root wx hlp (hS.below hx) hls hpc
  obtain ⟨r, hok, hr0, hr1⟩ := itemOk_parts root n fr l k hk
  clear hW hW0 hs0 hB0
  cases hP1 : pairOk l[k].1 with
  | false =>
    rw [hP1] at hPO hok
    have HO : Hid (itemOkAt root ⟨n, fr, l⟩ k = false) := by show _ = _; rw [hok]; simp
    have HPO := Hid.mk' hPO
    clear hPO hok hP1 HCP h hS hr0 hr1
    obtain ⟨x, hx⟩ : ∃ x, l[k] = x := ⟨_, rfl⟩
    simp only [hx] at HPO HW hX c1 c2 c3 hlp hls hpc
    clear hx
    go_enter Tryz.func34, Tryz.ntmps34
    go_wp2_with fail
    rw [HW.out]
    refine HPO.out.mono ?_
    rintro e w1 ⟨rfl, hb1⟩
    have hB1 := hB.trans (hb1.mono hB.size)
    clear HW HPO
    go_wp2_with fail
    go_ret
    exact ⟨ret_bool (by rw [HO.out]), hB1⟩
  | true =>
    rw [hP1] at hPO hok
    have HPO := Hid.mk' hPO
    have HC := Hid.mk' hok
    have HH := Hid.mk' h
    have HR0 := Hid.mk' hr0
    have HR1 := Hid.mk' hr1
    clear hPO hok hP1 hS h hr0 hr1
    obtain ⟨x, hx⟩ : ∃ x, l[k] = x := ⟨_, rfl⟩
    simp only [hx] at HPO HC HCP HW hX c1 c2 c3 hlp hls hpc HR1
    clear hx
    go_enter Tryz.func34, Tryz.ntmps34
    go_wp2_with fail
    rw [HW.out]
    refine HPO.out.mono ?_
    rintro e w1 ⟨rfl, hb1⟩
    have hB1 := hB.trans (hb1.mono hB.size)
    have F1 := hF.below hb1
    have X1 := hX.below hb1
    have a0 := F1.c0
    have a1 := F1.c1
    have x0 := X1.c0
    have x1 := X1.c1
    have x2 := X1.c2
    have HF1 := Hid.mk' F1
    have HX1 := Hid.mk' X1
    have hCP : ∀ I, Hid (I = fr + (k : Int)) → Calls Tryz.prog 67 #[.agg #[.string x.1.1, .string x.1.2], .int .i64 I, .int .i64 n, .slice (some ⟨pb, po, none⟩) x.2.length pc, .string root] w1 fun e w' => e = .returned (.bool (checkPathI x.1 (fr + (k : Int)) n x.2 root)) ∧ Below w1.heap.size w1 w' := fun I hI => by
      have e := hI.out
      subst e
      exact HCP.out w1 hB1
    clear HW HPO hF hX F1 X1 hb1 hB HCP
    cases hCk : checkPathI x.1 (fr + (k : Int)) n x.2 root with
    | false =>
      rw [hCk] at hCP HC
      have HCP := Hid.mk' hCP
      have HO : Hid (itemOkAt root ⟨n, fr, l⟩ k = false) := by show _ = _; rw [HC.out]; simp
      clear hCP HC hCk
      go_wp2_with fail
      refine (HCP.out _ (by show _ = _; omega)).mono ?_
      rintro e w2 ⟨rfl, hb2⟩
      have hB2 := hB1.trans (hb2.mono hB1.size)
      clear HCP a0 a1 x0 x1 x2
      go_wp2_with fail
      go_ret
      exact ⟨ret_bool (by rw [HO.out]), hB2⟩
    | true =>
      rw [hCk] at hCP HC
      have HCP := Hid.mk' hCP
      clear hCP hCk
      by_cases hk0 : k = 0
      · subst hk0
        have HO : Hid (itemOkAt root ⟨n, fr, l⟩ 0 = true) := by show _ = _; rw [HC.out, HR0.out rfl]; rfl
        clear HC
        go_wp2_with fail
        refine (HCP.out _ (by show _ = _; omega)).mono ?_
        rintro e w2 ⟨rfl, hb2⟩
        have hB2 := hB1.trans (hb2.mono hB1.size)
        clear HCP a0 a1 x0 x1 x2
        go_wp2_with fail
        go_quiet (fail)
        go_wp2_with fail
        go_ret
        exact ⟨ret_bool (by rw [HO.out]), below_drewN hB2 _⟩
      · obtain ⟨j, rfl⟩ : ∃ j, k = j + 1 := ⟨k - 1, by omega⟩
        have hj : j < l.length := by omega
        have d1 := (HH.out.at j hj).1
        have HO : Hid (itemOkAt root ⟨n, fr, l⟩ (j + 1) = ltB l[j].1.1 x.1.1) := by show _ = _; rw [HC.out, HR1.out j hj rfl]; simp
        obtain ⟨q, hq⟩ : ∃ q, l[j].1.1 = q := ⟨_, rfl⟩
        rw [hq] at d1 HO
        clear HC hq
        go_wp2_with fail
        refine (HCP.out _ (by show _ = _; omega)).mono ?_
        rintro e w2 ⟨rfl, hb2⟩
        have hB2 := hB1.trans (hb2.mono hB1.size)
        have F2 := HF1.out.below hb2
        have X2 := HX1.out.below hb2
        have e2 := F2.c2
        have y0 := X2.c0
        have d2 := (hB2.cell (p := ⟨b, off + j * 3, none⟩) hbb).trans d1
        have hji : (j : Int) < (l.length : Int) := by omega
        have hkz : ¬ ((j + 1 : Nat) : Int) = 0 := by omega
        have hkz2 : ((j : Int) + 1 == 0) = false := by simp; omega
        have hjw : IntKind.i64.wrap (j : Int) = (j : Int) := by rw [IntKind.wrap_i64]; omega
        have hkm : ((j + 1 : Nat) : Int) - 1 = (j : Int) := by omega
        clear HCP a0 a1 x0 x1 x2 HF1 HX1 F2 X2 d1
        cases hb : ltB q x.1.1 with
        | true =>
          rw [hb] at HO
          have hq : Op.bytesLess q.toList x.1.1.toList = true := hb
          clear hb
          go_wp2_with fail
          go_quiet (fail)
          go_wp2_with fail
          go_ret
          exact ⟨ret_bool (by rw [HO.out]), below_drewN hB2 _⟩
        | false =>
          rw [hb] at HO
          have hq : Op.bytesLess q.toList x.1.1.toList = false := hb
          clear hb
          go_wp2_with fail
          go_quiet (fail)
          go_wp2_with fail
          go_ret
          exact ⟨ret_bool (by rw [HO.out]), below_drewN hB2 _⟩
end Go.Proofs.YtdebbgodhpcijaaGreatDoor.range

namespace Go.Proofs.YtdebbgodhpcijaaGreatDoor.range
open Go Go.RowKit Go.Proofs.YtdebbgodhpcijaaGreatDoor.base Go.Proofs.YtdebbgodhpcijaaGreatDoor.pairs Go.Proofs.YtdebbgodhpcijaaGreatDoor.tree
set_option linter.unusedVariables false
set_option linter.unusedSimpArgs false

/-- what comes back of a check: pairs in a row of the call's own, and whether it holds -/
def CPost (w : World) (r : Option (List Pr)) (e : Ending) (w' : World) : Prop :=
  Below w.heap.size w w' ∧ ∃ g n c, e = .returned (.tuple #[.slice (some ⟨g, 0, none⟩) n c, .bool r.isSome]) ∧ OwnP w' w.heap.size g n c (r.getD [])
theorem keys_take {l : List It} {k : Nat} (h : k < l.length) : keysOf (l.take (k + 1)) = keysOf (l.take k) ++ [l[k].1] := by
  unfold keysOf; rw [List.take_succ_eq_append_getElem h, List.map_append]; rfl
theorem between_snoc (lo hi : ByteArray) (l : List Pr) (p : Pr) : between lo hi (l ++ [p]) = between lo hi l ++ (if inB lo hi p.1 = true then [p] else []) := by
  unfold between; rw [List.filter_append]; congr 1
  by_cases h : inB lo hi p.1 = true
  · rw [if_pos h]; simp [h]
  · rw [if_neg h]; simp [h]
theorem between_le (lo hi : ByteArray) (l : List Pr) : (between lo hi l).length ≤ l.length := List.length_filter_le _ _
theorem str_ne' {a b : ByteArray} (h : a ≠ b) : (a.toList == b.toList) = false := by
  rw [beq_eq_false_iff_ne]; intro e; rw [ByteArray.toList_eq, ByteArray.toList_eq] at e; exact h (bytes_ext e)

set_option maxRecDepth 100000 in
set_option maxHeartbeats 2000000 in
theorem spec_checkZero (root lo hi : ByteArray) (fr : Int) (a : Option Addr) (len cap : Nat) (l : List It) (w : World) (hlen : l.length = len) (hll : len ≤ 1099511627776) :
    Calls Tryz.prog 12 #[.string root, .string lo, .string hi, .agg #[.int .i64 0, .int .i64 fr, .slice a len cap]] w (CPost w (check root lo hi ⟨0, fr, l⟩)) := by
  obtain ⟨W, hW⟩ : ∃ W, (w.alloc (.cells #[.int .i64 0, .int .i64 fr, .slice a len cap] 27)).alloc (.cells #[] 49) = W := ⟨_, rfl⟩
  have hB0 : Below w.heap.size w (w.alloc (.cells #[.int .i64 0, .int .i64 fr, .slice a len cap] 27)) := (Below.refl _ _).alloc (Nat.le_refl _) _
  have hB : Below w.heap.size w W := by rw [← hW]; exact hB0.alloc hB0.size _
  have hO : OwnP W w.heap.size (w.heap.size + 1) 0 0 [] := by
    have := ownP_made (w.alloc (.cells #[.int .i64 0, .int .i64 fr, .slice a len cap] 27)) w.heap.size hB0.size
    rw [← hW]; simpa using this
  have HR := Hid.mk' (spec_l4Root [] (w.heap.size + 1) 0 0 W hO.sl (Nat.le_refl _) (by simp) (fun p hp => absurd hp List.not_mem_nil))
  have HW := Hid.mk' hW
  have HO := Hid.mk' hO
  have hck : check root lo hi ⟨0, fr, l⟩ = if l = [] ∧ fr = 0 ∧ root = rootOf [] then some [] else none := by unfold check; rw [if_pos rfl]
  clear hW hO hB0
  by_cases hl0 : len = 0
  · subst hl0
    have hl : l = [] := List.eq_nil_of_length_eq_zero hlen
    subst hl
    by_cases hf : fr = 0
    · subst hf
      by_cases hr : root = rootOf []
      · have HC : Hid (check root lo hi ⟨0, 0, []⟩ = some []) := by show _ = _; rw [hck, if_pos ⟨rfl, rfl, hr⟩]
        clear hck
        rw [HC.out]
        generalize rootOf [] = R at *
        subst hr
        go_enter Tryz.func12, Tryz.ntmps12
        go_wp2_with fail
        rw [HW.out]
        refine HR.out.mono ?_
        rintro e w1 ⟨rfl, hb1⟩
        have hB1 := hB.trans (hb1.mono hB.size)
        have HO1 := Hid.mk' (HO.out.below hb1)
        clear HW HR HO hb1
        go_wp2_with fail
        go_ret2
        exact ⟨hB1, _, _, _, by simp, HO1.out⟩
      · have HC : Hid (check root lo hi ⟨0, 0, []⟩ = none) := by show _ = _; rw [hck, if_neg (fun h => hr h.2.2)]
        have hq := str_ne' hr
        clear hck
        rw [HC.out]
        generalize rootOf [] = R at *
        clear hr
        go_enter Tryz.func12, Tryz.ntmps12
        go_wp2_with fail
        rw [HW.out]
        refine HR.out.mono ?_
        rintro e w1 ⟨rfl, hb1⟩
        have hB1 := hB.trans (hb1.mono hB.size)
        have HO1 := Hid.mk' (HO.out.below hb1)
        clear HW HR HO hb1
        go_wp2_with fail
        go_ret2
        exact ⟨hB1, _, _, _, by simp, HO1.out⟩
    · have HC : Hid (check root lo hi ⟨0, fr, []⟩ = none) := by show _ = _; rw [hck, if_neg (fun h => hf h.2.1)]
      have hq : (fr == 0) = false := by simpa using hf
      clear hck HR
      rw [HC.out]
      go_enter Tryz.func12, Tryz.ntmps12
      go_wp2_with fail
      rw [HW.out]
      go_ret2
      exact ⟨hB, _, _, _, by simp, HO.out⟩
  · have HC : Hid (check root lo hi ⟨0, fr, l⟩ = none) := by show _ = _; rw [hck, if_neg (fun h => hl0 (by rw [← hlen, h.1]; rfl))]
    have hq : ((len : Int) == 0) = false := by simp; omega
    have hq2 : ¬ (len : Int) = 0 := by omega
    clear hck HR
    rw [HC.out]
    go_enter Tryz.func12, Tryz.ntmps12
    go_wp2_with fail
    rw [HW.out]
    go_ret2
    exact ⟨hB, _, _, _, by simp, HO.out⟩
set_option maxRecDepth 100000 in
set_option maxHeartbeats 6000000 in
theorem spec_checkBetween (root lo hi : ByteArray) (n fr : Int) (a : Option Addr) (len cap : Nat) (l : List It) (w : World) (h : SlJ w a len l) (hnw : (Lit.int .i64 n).wf = true) (hfw : (Lit.int .i64 fr).wf = true) :
    Calls Tryz.prog 12 #[.string root, .string lo, .string hi, .agg #[.int .i64 n, .int .i64 fr, .slice a len cap]] w (CPost w (check root lo hi ⟨n, fr, l⟩)) := by
  have hlen := h.1
  have hll := h.2.1
  by_cases hn0 : n = 0
  · subst hn0
    exact spec_checkZero root lo hi fr a len cap l w hlen hll
  have hnb : -9223372036854775808 ≤ n ∧ n ≤ 9223372036854775807 := by simpa [Lit.wf, IntKind.min, IntKind.max, IntKind.signed, IntKind.bits] using hnw
  obtain ⟨i0, hif, hz0, hz1, hz2⟩ := info_parts infoP
  obtain ⟨W, hW⟩ : ∃ W, (w.alloc (.cells #[.int .i64 n, .int .i64 fr, .slice a len cap] 27)).alloc (.cells #[] 49) = W := ⟨_, rfl⟩
  have hB0 : Below w.heap.size w (w.alloc (.cells #[.int .i64 n, .int .i64 fr, .slice a len cap] 27)) := (Below.refl _ _).alloc (Nat.le_refl _) _
  have hBW : Below w.heap.size w W := by rw [← hW]; exact hB0.alloc hB0.size _
  have hsW : W.heap.size = w.heap.size + 2 := by rw [← hW]; simp
  have hN0 : OwnP W w.heap.size (w.heap.size + 1) 0 0 [] := by
    have := ownP_made (w.alloc (.cells #[.int .i64 n, .int .i64 fr, .slice a len cap] 27)) w.heap.size hB0.size
    rw [← hW]; simpa using this
  have hV0 : V3 W w.heap.size 27 (.int .i64 n) (.int .i64 fr) (.slice a len cap) := by
    have h0 : V3 (w.alloc (.cells #[.int .i64 n, .int .i64 fr, .slice a len cap] 27)) w.heap.size 27 (.int .i64 n) (.int .i64 fr) (.slice a len cap) := heap_alloc_new w _
    rw [← hW]; exact h0.below ((Below.refl _ _).alloc (Nat.le_refl _) _)
  have HW := Hid.mk' hW
  have hnq : (n == 0) = false := by simpa using hn0
  have hin1 := fun wx => s_inI n 1 60 wx
  have hin2 := fun wx => s_inI fr 0 (n - 1) wx
  have a0 := hV0.c0
  have a1 := hV0.c1
  have a2 := hV0.c2
  clear hW hB0
  by_cases hn1 : 1 ≤ n ∧ n ≤ 60
  · rw [decide_eq_true hn1] at hin1
    have HI1 := Hid.mk' hin1
    by_cases hl0 : len = 0
    · have hlnil : l = [] := List.eq_nil_of_length_eq_zero (by omega)
      have HC : Hid (check root lo hi ⟨n, fr, l⟩ = none) := by show _ = _; unfold check; rw [if_neg hn0, if_pos (.inr (.inl hlnil))]
      subst hl0
      rw [HC.out]
      clear HC hin1 hin2
      go_enter Tryz.func12, Tryz.ntmps12
      go_wp2_with fail
      rw [HW.out]
      refine (HI1.out _).mono ?_
      rintro e w1 ⟨rfl, hw1⟩
      subst hw1
      go_wp2_with fail
      go_ret2
      exact ⟨hBW, _, _, _, by simp, hN0⟩
    have hlq : ((len : Int) == 0) = false := by simp; omega
    have hlq2 : ¬ (len : Int) = 0 := by omega
    by_cases hf1 : 0 ≤ fr ∧ fr ≤ n - 1
    · rw [decide_eq_true hf1] at hin2
      have HI2 := Hid.mk' hin2
      obtain ⟨b, off, ha⟩ : ∃ b off, a = some ⟨b, off, none⟩ := by
        obtain ⟨b, off, ha, _⟩ := h.2.2.2 (by omega)
        exact ⟨b, off, ha⟩
      subst ha
      have hlne : ¬ l = [] := fun e => hl0 (by rw [← hlen, e]; rfl)
      subst hlen
      have HS := Hid.mk' h
      have hsm := h.2.2.1
      have hO0 : OwnP (W.alloc (.cells #[] 49)) (w.heap.size + 2) W.heap.size 0 0 [] := ownP_made W (w.heap.size + 2) (by omega)
      have hBa : Below W.heap.size W (W.alloc (.cells #[] 49)) := (Below.refl _ _).alloc (Nat.le_refl _) _
      have hB2 := hBW.trans (hBa.mono hBW.size)
      have hN2 := hN0.below hBa
      have hV2 := hV0.below hBa
      clear hin1 hin2 h hN0 hV0 hBW
      go_enter Tryz.func12, Tryz.ntmps12
      go_wp2_with fail
      rw [HW.out]
      refine (HI1.out _).mono ?_
      rintro e w1 ⟨rfl, hw1⟩
      subst hw1
      go_wp2_with fail
      refine (HI2.out _).mono ?_
      rintro e w1 ⟨rfl, hw1⟩
      subst hw1
      clear HI1 HI2 a0 a1 a2 HW hBa
      go_wp2_with (at_builtin; fail)
      go_loopw [12, 13] (fun ov kv wr => ∃ k g m c : Nat, ov = .slice (some ⟨g, 0, none⟩) m c ∧ kv = .int .i64 (k : Int) ∧ k ≤ l.length ∧ (∀ j, j < k → itemOkAt root ⟨n, fr, l⟩ j = true) ∧ OwnP wr (w.heap.size + 2) g m c (between lo hi (keysOf (l.take k))) ∧ OwnP wr w.heap.size (w.heap.size + 1) 0 0 [] ∧ V3 wr w.heap.size 27 (.int .i64 n) (.int .i64 fr) (.slice (some ⟨b, off, none⟩) l.length cap) ∧ Below w.heap.size w wr) (fun _ kv _ => l.length - (intOf kv).toNat)
      case atStart =>
        rw [hsW] at hO0
        exact ⟨0, _, 0, 0, rfl, rfl, Nat.zero_le _, fun j hj => absurd hj (by omega), hO0, hN2, hV2, hB2⟩
      case round =>
      obtain ⟨k, g, m, c, rfl, rfl, hk, hok, hO, hN, hV, hB⟩ := hrel
      clear hO0 hN2 hV2 hB2
      by_cases hlt : k < l.length
      · have hki : (k : Int) < (l.length : Int) := by omega
        have a0 := hV.c0
        have a1 := hV.c1
        have a2 := hV.c2
        have hIt := spec_l5Item root n fr b off cap k l wr (HS.out.below hB) hlt (by omega)
        cases hik : itemOkAt root ⟨n, fr, l⟩ k with
        | false =>
          rw [hik] at hIt
          have HIt := Hid.mk' hIt
          have HC : Hid (check root lo hi ⟨n, fr, l⟩ = none) := by
            show _ = _
            unfold check
            rw [if_neg hn0, if_neg (by rintro (h1 | h1 | h1); exact h1 hn1; exact hlne h1; exact h1 hf1), if_pos (all_range_false hlt hik)]
          rw [HC.out]
          have HN := Hid.mk' hN
          clear HC hIt hO hN hV hok hsm
          go_wp2_with (at_builtin; fail)
          refine HIt.out.mono ?_
          rintro e w1 ⟨rfl, hb1⟩
          have hB1 := hB.trans (hb1.mono hB.size)
          have HN1 := Hid.mk' (HN.out.below hb1)
          clear HIt HN hb1
          go_wp2_with (at_builtin; fail)
          go_ret2
          exact ⟨hB1, _, _, _, by simp, HN1.out⟩
        | true =>
          rw [hik] at hIt
          have HIt := Hid.mk' hIt
          have HOK : Hid (∀ j, j < k + 1 → itemOkAt root ⟨n, fr, l⟩ j = true) := fun j hj => by
            by_cases e : j = k
            · rw [e]; exact hik
            · exact hok j (by omega)
          have hbt := between_snoc lo hi (keysOf (l.take k)) l[k].1
          rw [← keys_take hlt] at hbt
          have hkk : (keysOf (l.take k)).length = k := by unfold keysOf; rw [List.length_map, List.length_take]; omega
          have hml : m ≤ k := by have := hO.1; have := between_le lo hi (keysOf (l.take k)); omega
          obtain ⟨xk, hxk⟩ : ∃ xk, l[k] = xk := ⟨_, rfl⟩
          have hlx := hsm l[k] (List.getElem_mem hlt)
          rw [hxk] at hlx
          have hpk : small xk.1 := ⟨by have := hlx.1.1; unfold maxLen; omega, by have := hlx.1.2; unfold maxLen; omega⟩
          have HO := Hid.mk' hO
          have HN := Hid.mk' hN
          have HV := Hid.mk' hV
          clear hIt hO hN hV hok hsm hik hlx
          go_wp2_with (at_builtin; fail)
          refine HIt.out.mono ?_
          rintro e w1 ⟨rfl, hb1⟩
          have hB1 := hB.trans (hb1.mono hB.size)
          have hO1 := HO.out.below hb1
          have hN1 := HN.out.below hb1
          have hV1 := HV.out.below hb1
          have e2 := hV1.c2
          have hJ := (HS.out.below hB1).at k hlt
          rw [hxk] at hJ hbt
          have c1 := hJ.1
          have c2 := hJ.2.1
          have hs1 : w.heap.size + 2 ≤ w1.heap.size := by have := hO1.lt; omega
          have hIn := spec_l3In xk.1.1 lo hi w1
          clear HIt HO HN HV hb1 hB hJ a0 a1 a2 hxk
          cases hib : inB lo hi xk.1.1 with
          | false =>
            rw [hib] at hIn hbt
            have HIn := Hid.mk' hIn
            have HBT : Hid (between lo hi (keysOf (l.take (k + 1))) = between lo hi (keysOf (l.take k))) := by show _ = _; rw [hbt]; simp
            have HO1 := Hid.mk' hO1
            have HN1 := Hid.mk' hN1
            have HV1 := Hid.mk' hV1
            clear hIn hbt hO1 hN1 hV1 hib
            go_wp2_with (at_builtin; fail)
            refine HIn.out.mono ?_
            rintro e w3 ⟨rfl, hw3⟩
            subst hw3
            clear HIn
            go_wp2_with (at_builtin; fail)
            go_roundw
            case rel => exact ⟨k + 1, g, m, c, rfl, by go_num, by omega, HOK.out, by rw [HBT.out]; exact HO1.out, HN1.out, HV1.out, hB1⟩
            case measure => simp [intOf]; omega
          | true =>
            rw [hib] at hIn hbt
            have HIn := Hid.mk' hIn
            have HBT : Hid (between lo hi (keysOf (l.take (k + 1))) = between lo hi (keysOf (l.take k)) ++ [xk.1]) := by show _ = _; rw [hbt]; simp
            have hc3 : m + 1 ≤ maxLen := by unfold maxLen; omega
            have hc4 : (m + 1) * 32 ≤ 140737488355328 := by omega
            have HN1 := Hid.mk' hN1
            have HV1 := Hid.mk' hV1
            clear hIn hbt hN1 hV1 hib
            generalize xk.1 = p at *
            go_wp2_with (at_builtin; fail)
            refine HIn.out.mono ?_
            rintro e w3 ⟨rfl, hw3⟩
            subst hw3
            clear HIn
            go_wp2_with (at_builtin; refine wpList_append_own _ rfl (.tmp 77) (.tmp 84) 24 rfl (w.heap.size + 2) 49 i0 (.agg #[.string ⟨#[]⟩, .string ⟨#[]⟩]) 2 32 Tryz.underlying24 hif hz0 hz1 hz2 rfl (by decide) _ _ _ rfl (hO1.2.2.alloc _) ⟨w3.heap.size, 0, none⟩ 1 1 (pairVals [p]) rfl rfl (one_pair_cells _ _ _) (pairVals_oneCell _) hc3 hc4 (le_alloc _ _ hs1) ?_)
            intro v2 w2 hown hgrow hnn
            obtain ⟨g2, cp2, hv, hO2⟩ := ownP_app hO1.1 hO1.2.1 hpk hnn hown
            subst hv
            have hgr2 : (w3.alloc (.cells #[.string p.1, .string p.2] 49)).grownBy w2 (some g) := hgrow
            have hgl := hO1.lt.1
            have hba : Below w3.heap.size w3 (w3.alloc (.cells #[.string p.1, .string p.2] 49)) := (Below.refl _ _).alloc (Nat.le_refl _) _
            have hBg : Below (w.heap.size + 2) w3 w2 := (hba.mono hs1).trans (below_grown hgr2 hgl (by have := hba.size; omega))
            have HB2 := Hid.mk' (hB1.trans (hBg.mono (by omega)))
            have HN2 : Hid (OwnP w2 w.heap.size (w.heap.size + 1) 0 0 []) := ownP_of_block HN1.out (hBg.block _ (by omega))
            have HV2 : Hid (V3 w2 w.heap.size 27 (.int .i64 n) (.int .i64 fr) (.slice (some ⟨b, off, none⟩) l.length cap)) := (hBg.block _ (by omega)).trans HV1.out
            rw [← HBT.out] at hO2
            have HO2 := Hid.mk' hO2
            clear hown hgrow hgr2 hnn hO2 hO1 hB1 hBg hba HN1 HV1 c1 c2 e2
            go_wp2_with (at_builtin; fail)
            go_roundw
            case rel => exact ⟨k + 1, g2, m + 1, cp2, rfl, by go_num, by omega, HOK.out, HO2.out, HN2.out, HV2.out, HB2.out⟩
            case measure => simp [intOf]; omega
      · have hall : ∀ j, j < l.length → itemOkAt root ⟨n, fr, l⟩ j = true := fun j hj => hok j (by omega)
        have hkl : k = l.length := by omega
        subst hkl
        have HCK : Hid (check root lo hi ⟨n, fr, l⟩ = @ite _ (endsBad lo hi ⟨n, fr, l⟩) (endsDec lo hi ⟨n, fr, l⟩) none (some (between lo hi (keysOf l)))) := by
          show _ = _
          unfold check
          rw [if_neg hn0, if_neg (by rintro (h1 | h1 | h1); exact h1 hn1; exact hlne h1; exact h1 hf1), if_neg (by rw [all_range_true hall]; simp)]
        rw [List.take_length] at hO
        have HOU := Hid.mk' (hO.mono (base' := w.heap.size) (by omega))
        have hki : ¬ ((l.length : Nat) : Int) < (l.length : Int) := by omega
        have hpos : 0 < l.length := by omega
        have HJ := HS.out.below hB
        have i0c := (HJ.at 0 hpos).1
        have i1c := (HJ.at (l.length - 1) (by omega)).1
        have hfk : firstKey l = l[0].1.1 := by unfold firstKey; rw [List.head?_eq_getElem?, List.getElem?_eq_getElem hpos]
        have hlk : lastKey l = (l[l.length - 1]'(by omega)).1.1 := by unfold lastKey; rw [List.getLast?_eq_getElem?, List.getElem?_eq_getElem (by omega)]
        rw [← hfk] at i0c
        rw [← hlk] at i1c
        have HEB : Hid (endsBad lo hi ⟨n, fr, l⟩ ↔ (ltB (firstKey l) lo = false ∧ 0 < fr) ∨ ((hi.size = 0 ∨ ltB (lastKey l) hi = true) ∧ fr + (l.length : Int) < n)) := Iff.rfl
        rw [Nat.zero_mul, Nat.add_zero] at i0c
        obtain ⟨q, hq⟩ : ∃ q, l.length - 1 = q := ⟨_, rfl⟩
        rw [hq] at i1c
        have hqi : (l.length : Int) - 1 = (q : Int) := by omega
        have hqn : (q : Int) < (l.length : Int) := by omega
        have h0l : (0 : Int) < (l.length : Int) := by omega
        have a0 := hV.c0
        have a1 := hV.c1
        have a2 := hV.c2
        have HN := Hid.mk' hN
        generalize firstKey l = fk at *
        generalize lastKey l = lk at *
        have hz : hi.size = 0 ↔ hi = ⟨#[]⟩ := by
          constructor
          · intro h; apply bytes_ext; exact List.eq_nil_of_length_eq_zero (by rw [Array.length_toList]; exact h)
          · rintro rfl; rfl
        clear hO hok hall HJ hfk hlk hV hN hq hsm
        cases h1 : Op.bytesLess fk.toList lo.toList with
        | false =>
          by_cases hf0 : 0 < fr
          · have HC : Hid (check root lo hi ⟨n, fr, l⟩ = none) := by show _ = _; rw [HCK.out, if_pos (show endsBad lo hi ⟨n, fr, l⟩ from HEB.out.2 (.inl ⟨h1, hf0⟩))]
            clear HCK
            go_wp2_with (at_builtin; fail)
            go_ret2
            exact ⟨hB, _, _, _, by rw [HC.out]; rfl, by rw [HC.out]; exact HN.out⟩
          · have HF0 : Hid (¬ 0 < fr) := hf0
            by_cases hh : hi = ⟨#[]⟩
            · have HZ : Hid (hi.size = 0) := hz.2 hh
              clear hz
              by_cases he : fr + (l.length : Int) < n
              · have HC : Hid (check root lo hi ⟨n, fr, l⟩ = none) := by show _ = _; rw [HCK.out, if_pos (show endsBad lo hi ⟨n, fr, l⟩ from HEB.out.2 (.inr ⟨.inl HZ.out, he⟩))]
                clear HCK
                subst hh
                go_wp2_with (at_builtin; fail)
                go_ret2
                exact ⟨hB, _, _, _, by rw [HC.out]; rfl, by rw [HC.out]; exact HN.out⟩
              · have HC : Hid (check root lo hi ⟨n, fr, l⟩ = some (between lo hi (keysOf l))) := by show _ = _; rw [HCK.out, if_neg (show ¬ endsBad lo hi ⟨n, fr, l⟩ from fun hb => by rcases HEB.out.1 hb with h1 | h1; exact (fun h : ltB fk lo = false ∧ 0 < fr => HF0.out h.2) h1; exact he h1.2)]
                clear HCK
                subst hh
                go_wp2_with (at_builtin; fail)
                go_ret2
                exact ⟨hB, _, _, _, by rw [HC.out]; rfl, by rw [HC.out]; exact HOU.out⟩
            · have HZ : Hid (¬ hi.size = 0) := fun e => hh (hz.1 e)
              have hq2 : hi.toList.isEmpty = false := by rw [Bool.eq_false_iff]; intro e; exact hh (bytes_ext (by rw [← ByteArray.toList_eq]; exact List.isEmpty_iff.1 e))
              have hq3 : ¬ hi.toList = [] := fun e => hh (bytes_ext (by rw [← ByteArray.toList_eq]; exact e))
              clear hz hh
              cases h3 : Op.bytesLess lk.toList hi.toList with
              | true =>
                by_cases he : fr + (l.length : Int) < n
                · have HC : Hid (check root lo hi ⟨n, fr, l⟩ = none) := by show _ = _; rw [HCK.out, if_pos (show endsBad lo hi ⟨n, fr, l⟩ from HEB.out.2 (.inr ⟨.inr h3, he⟩))]
                  clear HCK
                  go_wp2_with (at_builtin; fail)
                  go_ret2
                  exact ⟨hB, _, _, _, by rw [HC.out]; rfl, by rw [HC.out]; exact HN.out⟩
                · have HC : Hid (check root lo hi ⟨n, fr, l⟩ = some (between lo hi (keysOf l))) := by show _ = _; rw [HCK.out, if_neg (show ¬ endsBad lo hi ⟨n, fr, l⟩ from fun hb => by rcases HEB.out.1 hb with h1 | h1; exact (fun h : ltB fk lo = false ∧ 0 < fr => HF0.out h.2) h1; exact he h1.2)]
                  clear HCK
                  go_wp2_with (at_builtin; fail)
                  go_ret2
                  exact ⟨hB, _, _, _, by rw [HC.out]; rfl, by rw [HC.out]; exact HOU.out⟩
              | false =>
                have HC : Hid (check root lo hi ⟨n, fr, l⟩ = some (between lo hi (keysOf l))) := by show _ = _; rw [HCK.out, if_neg (show ¬ endsBad lo hi ⟨n, fr, l⟩ from fun hb => by rcases HEB.out.1 hb with h1 | h1; exact (fun h : ltB fk lo = false ∧ 0 < fr => HF0.out h.2) h1; rcases h1.1 with h2 | h2; exact HZ.out h2; (have h4 : ltB lk hi = false := h3); rw [h4] at h2; cases h2)]
                clear HCK
                go_wp2_with (at_builtin; fail)
                go_ret2
                exact ⟨hB, _, _, _, by rw [HC.out]; rfl, by rw [HC.out]; exact HOU.out⟩
        | true =>
          have H1 : Hid (ltB fk lo = true) := h1
          by_cases hh : hi = ⟨#[]⟩
          · have HZ : Hid (hi.size = 0) := hz.2 hh
            clear hz
            by_cases he : fr + (l.length : Int) < n
            · have HC : Hid (check root lo hi ⟨n, fr, l⟩ = none) := by show _ = _; rw [HCK.out, if_pos (show endsBad lo hi ⟨n, fr, l⟩ from HEB.out.2 (.inr ⟨.inl HZ.out, he⟩))]
              clear HCK
              subst hh
              go_wp2_with (at_builtin; fail)
              go_ret2
              exact ⟨hB, _, _, _, by rw [HC.out]; rfl, by rw [HC.out]; exact HN.out⟩
            · have HC : Hid (check root lo hi ⟨n, fr, l⟩ = some (between lo hi (keysOf l))) := by show _ = _; rw [HCK.out, if_neg (show ¬ endsBad lo hi ⟨n, fr, l⟩ from fun hb => by rcases HEB.out.1 hb with h1 | h1; exact (fun h : ltB fk lo = false ∧ 0 < fr => by rw [H1.out] at h; cases h.1) h1; exact he h1.2)]
              clear HCK
              subst hh
              go_wp2_with (at_builtin; fail)
              go_ret2
              exact ⟨hB, _, _, _, by rw [HC.out]; rfl, by rw [HC.out]; exact HOU.out⟩
          · have HZ : Hid (¬ hi.size = 0) := fun e => hh (hz.1 e)
            have hq2 : hi.toList.isEmpty = false := by rw [Bool.eq_false_iff]; intro e; exact hh (bytes_ext (by rw [← ByteArray.toList_eq]; exact List.isEmpty_iff.1 e))
            have hq3 : ¬ hi.toList = [] := fun e => hh (bytes_ext (by rw [← ByteArray.toList_eq]; exact e))
            clear hz hh
            cases h3 : Op.bytesLess lk.toList hi.toList with
            | true =>
              by_cases he : fr + (l.length : Int) < n
              · have HC : Hid (check root lo hi ⟨n, fr, l⟩ = none) := by show _ = _; rw [HCK.out, if_pos (show endsBad lo hi ⟨n, fr, l⟩ from HEB.out.2 (.inr ⟨.inr h3, he⟩))]
                clear HCK
                go_wp2_with (at_builtin; fail)
                go_ret2
                exact ⟨hB, _, _, _, by rw [HC.out]; rfl, by rw [HC.out]; exact HN.out⟩
              · have HC : Hid (check root lo hi ⟨n, fr, l⟩ = some (between lo hi (keysOf l))) := by show _ = _; rw [HCK.out, if_neg (show ¬ endsBad lo hi ⟨n, fr, l⟩ from fun hb => by rcases HEB.out.1 hb with h1 | h1; exact (fun h : ltB fk lo = false ∧ 0 < fr => by rw [H1.out] at h; cases h.1) h1; exact he h1.2)]
                clear HCK
                go_wp2_with (at_builtin; fail)
                go_ret2
                exact ⟨hB, _, _, _, by rw [HC.out]; rfl, by rw [HC.out]; exact HOU.out⟩
            | false =>
              have HC : Hid (check root lo hi ⟨n, fr, l⟩ = some (between lo hi (keysOf l))) := by show _ = _; rw [HCK.out, if_neg (show ¬ endsBad lo hi ⟨n, fr, l⟩ from fun hb => by rcases HEB.out.1 hb with h1 | h1; exact (fun h : ltB fk lo = false ∧ 0 < fr => by rw [H1.out] at h; cases h.1) h1; rcases h1.1 with h2 | h2; exact HZ.out h2; (have h4 : ltB lk hi = false := h3); rw [h4] at h2; cases h2)]
              clear HCK
              go_wp2_with (at_builtin; fail)
              go_ret2
              exact ⟨hB, _, _, _, by rw [HC.out]; rfl, by rw [HC.out]; exact HOU.out⟩
    · rw [decide_eq_false hf1] at hin2
      have HI2 := Hid.mk' hin2
      have HC : Hid (check root lo hi ⟨n, fr, l⟩ = none) := by show _ = _; unfold check; rw [if_neg hn0, if_pos (.inr (.inr hf1))]
      rw [HC.out]
      clear HC hin1 hin2 hf1
      go_enter Tryz.func12, Tryz.ntmps12
      go_wp2_with fail
      rw [HW.out]
      refine (HI1.out _).mono ?_
      rintro e w1 ⟨rfl, hw1⟩
      subst hw1
      go_wp2_with fail
      refine (HI2.out _).mono ?_
      rintro e w1 ⟨rfl, hw1⟩
      subst hw1
      go_wp2_with fail
      go_ret2
      exact ⟨hBW, _, _, _, by simp, hN0⟩
  · rw [decide_eq_false hn1] at hin1
    have HI1 := Hid.mk' hin1
    have HC : Hid (check root lo hi ⟨n, fr, l⟩ = none) := by show _ = _; unfold check; rw [if_neg hn0, if_pos (.inl hn1)]
    rw [HC.out]
    clear HC hin1 hin2 hn1
    go_enter Tryz.func12, Tryz.ntmps12
    go_wp2_with fail
    rw [HW.out]
    refine (HI1.out _).mono ?_
    rintro e w1 ⟨rfl, hw1⟩
    subst hw1
    go_wp2_with fail
    go_ret2
    exact ⟨hBW, _, _, _, by simp, hN0⟩
end Go.Proofs.YtdebbgodhpcijaaGreatDoor.range

namespace Go.Proofs.YtdebbgodhpcijaaGreatDoor.stepc
open Go Go.RowKit
theorem step_call_sl {P : Program} {ops : Array Oper} {o : Oper} {a : Act} {w : World} {K : Act → World → Prop} {Q : Exit → Act → World → Prop} {E : Prop} (hgd : o.guard = none) (f : FuncId) (x y : Operand) (ts : Array TypeId)
    (ho : o.op = .call { callee := .value (.func f), args := #[x, y], argTypes := ts }) (hent : ∀ args w, (callFunc f args).run P w = .ok (.enter f args) w)
    (v1 v2 : Value) (h1 : a.eval x = v1) (h2 : a.eval y = v2) (R : Nat → Nat → Nat → World → Prop)
    (hc : Calls P f #[v1, v2] w fun e w' => ∃ g n c, e = .returned (.slice (some ⟨g, 0, none⟩) n c) ∧ R g n c w')
    (h : ∀ g n c w', R g n c w' → K (a.put o.dst (.slice (some ⟨g, 0, none⟩) n c)) w') :
    if Region.wanted o (yielded ops a.tmps) = true then Oper.wp P o a w K Q else E := by
  have hw : Region.wanted o (yielded ops a.tmps) = true := by simp [Region.wanted, hgd]
  rw [if_pos hw]
  unfold Oper.wp execOp
  have hf : a.eval (.func f) = .func (.func f) #[] #[] := rfl
  have hof : (Deferred.ofValue (Value.func (Fn.func f) #[] #[]) #[v1, v2]).run P w = .ok { target := .fn (.func f) #[], args := #[v1, v2] } w := rfl
  simp only [ho, resolve, invoke, Sem.run_bind, List.map_toArray, List.map_cons, List.map_nil, h1, h2, hf, hof, Result.andThen_ok, hent]
  show Calls P f #[v1, v2] w _
  exact hc.mono (fun e w' he => by obtain ⟨g, n, c, rfl, hr⟩ := he; exact h g n c w' hr)
end Go.Proofs.YtdebbgodhpcijaaGreatDoor.stepc

namespace Go.Proofs.YtdebbgodhpcijaaGreatDoor.range
open Go Go.RowKit Go.Proofs.YtdebbgodhpcijaaGreatDoor.base Go.Proofs.YtdebbgodhpcijaaGreatDoor.pairs Go.Proofs.YtdebbgodhpcijaaGreatDoor.tree
set_option linter.unusedVariables false
set_option linter.unusedSimpArgs false

theorem ok_lim {l : List Pr} (h : pairsOk l = true) : ∀ p ∈ l, lim p := by
  intro p hp
  have h1 := ((pairsOk_iff l).1 h).1.1 p hp
  unfold pairOk keyOk at h1
  simp only [Bool.and_eq_true, decide_eq_true_eq] at h1
  exact ⟨by omega, by omega⟩

set_option maxRecDepth 100000 in
set_option maxHeartbeats 2000000 in
theorem spec_proveNo (b off cap : Nat) (l : List Pr) (lo hi : ByteArray) (w : World) (h : SlP w (some ⟨b, off, none⟩) l.length l) (hks : ∀ p ∈ l, p.1.size ≤ 1099511627776) (hok : pairsOk l = false) :
    Calls Tryz.prog 17 #[.slice (some ⟨b, off, none⟩) l.length cap, .string lo, .string hi] w fun e w' =>
      e = .returned (.agg #[.int .i64 0, .int .i64 0, .slice none 0 0]) ∧ Below w.heap.size w w' := by
  obtain ⟨w0, hw0⟩ : ∃ w0, w0 = w.alloc (.cells #[.int .i64 0, .int .i64 0, .slice none 0 0] 27) := ⟨_, rfl⟩
  have hba : Below w.heap.size w w0 := by rw [hw0]; exact (Below.refl _ _).alloc (Nat.le_refl _) _
  have hsz : w0.heap.size = w.heap.size + 1 := by rw [hw0]; simp
  have k0 : w0.cell? ⟨w.heap.size, 0, none⟩ = some (.int .i64 0) := by rw [hw0]; simp
  have k1 : w0.cell? ⟨w.heap.size, 1, none⟩ = some (.int .i64 0) := by rw [hw0]; simp
  have k2 : w0.cell? ⟨w.heap.size, 2, none⟩ = some (.slice none 0 0) := by rw [hw0]; simp
  have f0 : ∀ j, w0.frozen? ⟨w.heap.size, j, none⟩ = false := by intro j; rw [hw0]; simp
  have hP := spec_pairsOk b off l.length cap l w0 (h.below hba) hks
  rw [hok] at hP
  have HP := Hid.mk' hP
  clear hP hok
  go_enter Tryz.func17, Tryz.ntmps17
  go_wp2_with fail
  rw [← hw0]
  clear hw0
  refine HP.out.mono ?_
  rintro e w1 ⟨rfl, hb1⟩
  have hlt : w.heap.size < w0.heap.size := by omega
  have c0 := (hb1.cell (p := ⟨w.heap.size, 0, none⟩) hlt).trans k0
  have c1 := (hb1.cell (p := ⟨w.heap.size, 1, none⟩) hlt).trans k1
  have c2 := (hb1.cell (p := ⟨w.heap.size, 2, none⟩) hlt).trans k2
  have z0 := (hb1.frozen (p := ⟨w.heap.size, 0, none⟩) hlt).trans (f0 0)
  have z1 := (hb1.frozen (p := ⟨w.heap.size, 1, none⟩) hlt).trans (f0 1)
  have z2 := (hb1.frozen (p := ⟨w.heap.size, 2, none⟩) hlt).trans (f0 2)
  have hB1 := hba.trans (hb1.mono hba.size)
  clear k0 k1 k2 f0 hsz HP
  go_wp2_with fail
  have hBz := ((hB1.setCell (p := ⟨w.heap.size, 0, none⟩) (Nat.le_refl _) (.int .i64 0)).setCell (p := ⟨w.heap.size, 1, none⟩) (Nat.le_refl _) (.int .i64 0)).setCell (p := ⟨w.heap.size, 2, none⟩) (Nat.le_refl _) (.slice none 0 0)
  refine bodyPost_ret (v := .agg #[.int .i64 0, .int .i64 0, .slice none 0 0]) ?h1 rfl ⟨rfl, hBz⟩
  simp [results, Tryz.results17, go_sem, c0, c1, c2]

end Go.Proofs.YtdebbgodhpcijaaGreatDoor.range
