/- The program's proving of all between. -/
import Derived.Test.YtdebbgodhpcijaaGreatDoorRangeF
import Derived.Test.YtdebbgodhpcijaaGreatDoorPairY
import Derived.Test.YtdebbgodhpcijaaGreatDoorRangeT
import Derived.Test.YtdebbgodhpcijaaGreatDoorRangeP
namespace Go.Proofs.YtdebbgodhpcijaaGreatDoor.range
open Go Go.RowKit Go.Shelf Go.Proofs.YtdebbgodhpcijaaGreatDoor.base Go.Proofs.YtdebbgodhpcijaaGreatDoor.pairs Go.Proofs.YtdebbgodhpcijaaGreatDoor.tree
set_option linter.unusedVariables false
set_option linter.unusedSimpArgs false
attribute [local go_sem] Oper.semAt_some

theorem V3.thawed {w : World} {g : Nat} {t : TypeId} {x y z : Value} (h : V3 w g t x y z) (o : Nat) : w.frozen? ⟨g, o, none⟩ = false := by simp [World.frozen?, show w.heap[g]? = _ from h]
theorem V3.put2 {w : World} {g : Nat} {t : TypeId} {x y z : Value} (h : V3 w g t x y z) (u : Value) : V3 (w.setCell ⟨g, 2, none⟩ u) g t x y u := by
  obtain ⟨hlt, hk⟩ := Array.getElem?_eq_some_iff.1 h
  show (w.heap.modify g _)[g]? = _
  rw [Array.getElem?_eq_getElem (by rw [Array.size_modify]; exact hlt), Array.getElem_modify_self, hk]
  rfl
theorem V3.put0 {w : World} {g : Nat} {t : TypeId} {x y z : Value} (h : V3 w g t x y z) (u : Value) : V3 (w.setCell ⟨g, 0, none⟩ u) g t u y z := by
  obtain ⟨hlt, hk⟩ := Array.getElem?_eq_some_iff.1 h
  show (w.heap.modify g _)[g]? = _
  rw [Array.getElem?_eq_getElem (by rw [Array.size_modify]; exact hlt), Array.getElem_modify_self, hk]
  rfl
theorem V3.put1 {w : World} {g : Nat} {t : TypeId} {x y z : Value} (h : V3 w g t x y z) (u : Value) : V3 (w.setCell ⟨g, 1, none⟩ u) g t x u z := by
  obtain ⟨hlt, hk⟩ := Array.getElem?_eq_some_iff.1 h
  show (w.heap.modify g _)[g]? = _
  rw [Array.getElem?_eq_getElem (by rw [Array.size_modify]; exact hlt), Array.getElem_modify_self, hk]
  rfl
theorem V3.beside {w : World} {g b o : Nat} {t : TypeId} {x y z : Value} (h : V3 w g t x y z) (u : Value) (hne : g ≠ b) : V3 (w.setCell ⟨b, o, none⟩ u) g t x y z := (Below.heap_setCell w ⟨b, o, none⟩ u g hne).trans h
theorem V3.of_block {w w' : World} {g : Nat} {t : TypeId} {x y z : Value} (h : V3 w g t x y z) (hk : w'.heap[g]? = w.heap[g]?) : V3 w' g t x y z := hk.trans h

/-! ### blocks of cells lie as they lay, whatever else is turned -/
theorem keep_cells {w w' : World} {row : Option Nat} {B k : Nat} {cs : Array Value} {t : TypeId} {f : Nat × Nat} (hk : w.heap[k]? = some (.cells cs t f)) (hg : w.grownBy w' row) (hr : ∀ r, row = some r → B ≤ r ∧ ∃ o : Obj, w.heap[r]? = some o ∧ o.isCells = false) : w'.heap[k]? = w.heap[k]? := by
  refine hg.block k (Array.getElem?_eq_some_iff.1 hk).1 (fun e => ?_)
  obtain ⟨_, o, ho, hc⟩ := hr k e.symm
  rw [hk] at ho; cases ho; cases hc
theorem row_cells {w : World} {base : Nat} {e : TypeId} {size : Nat} {v : Value} {n k : Nat} {xs : List Value} (h : w.ownsRow base e size v n xs) (hk : v.ownBlock = some k) : ∃ cs t f, w.heap[k]? = some (.cells cs t f) := by
  rcases h.2 with ⟨rfl, _⟩ | ⟨g, cap, cur, rfl, _, hg, _⟩
  · cases hk
  · cases hk; exact ⟨_, _, _, hg⟩
theorem OwnI.cellsAt {w : World} {base k : Nat} {v : Value} {l : List It} {hs : List Hd} (h : OwnI w base v l hs) (hk : Blk v hs k) : ∃ cs t f, w.heap[k]? = some (.cells cs t f) := by
  rcases hk with e | ⟨y, hy, rfl⟩
  · exact row_cells h.row e
  · obtain ⟨i, hi, rfl⟩ := List.getElem_of_mem hy
    exact row_cells (h.paths i (by have := h.len; omega)).2.2 rfl
theorem OwnI.turned {w w' : World} {base B : Nat} {v : Value} {l : List It} {hs : List Hd} {row : Option Nat} (h : OwnI w base v l hs) (hg : w.grownBy w' row) (hr : ∀ r, row = some r → B ≤ r ∧ ∃ o : Obj, w.heap[r]? = some o ∧ o.isCells = false) : OwnI w' base v l hs :=
  h.of_blocks (fun k hk => by obtain ⟨cs, t, f, hc⟩ := h.cellsAt hk; exact keep_cells hc hg hr)
/-- one item more: its path lay there already, apart from the others -/
theorem OwnI.push {w w7 : World} {base g5 n5 c5 : Nat} {v v7 : Value} {l : List It} {hs : List Hd} {p : Pr} {P : List ByteArray} (h : OwnI w base v l hs) (hP : OwnS w base g5 n5 c5 P) (hfr : ∀ y ∈ hs, y.1 ≠ g5) (hp : small p)
    (o : Obj) (hown : w7.ownsRow base 61 3 v7 (l.length + 1) (itVals l hs ++ [.string p.1, .string p.2, .slice (some ⟨g5, 0, none⟩) n5 c5])) (hgrow : (w.alloc o).grownBy w7 v.ownBlock) :
    OwnI w7 base v7 (l ++ [(p, P)]) (hs ++ [(g5, n5, c5)]) := by
  have hlen := h.len
  have keep : ∀ {g n c : Nat} {ss : List ByteArray}, OwnS w base g n c ss → some g ≠ v.ownBlock → OwnS w7 base g n c ss := fun hS hne => (ownS_of_block (w' := w.alloc o) hS (Below.heap_alloc w o _ hS.lt.2)).grown hgrow hne
  have hps : ∀ i (hi : i < (l ++ [(p, P)]).length), OwnS w7 base ((hs ++ [(g5, n5, c5)])[i]'(by simp at hi ⊢; omega)).1 ((hs ++ [(g5, n5, c5)])[i]'(by simp at hi ⊢; omega)).2.1 ((hs ++ [(g5, n5, c5)])[i]'(by simp at hi ⊢; omega)).2.2 (l ++ [(p, P)])[i].2 := by
    intro i hi
    by_cases e : i < l.length
    · rw [List.getElem_append_left e]
      simp only [List.getElem_append_left (show i < hs.length by omega)]
      refine keep (h.paths i e) (fun e2 => ?_)
      exact h.out _ e2.symm _ (List.getElem_mem _) rfl
    · have : i = l.length := by simp at hi; omega
      subst this
      rw [List.getElem_append_right (Nat.le_refl _)]
      simp only [List.getElem_append_right (show hs.length ≤ l.length by omega)]
      simp only [hlen, Nat.sub_self, List.getElem_cons_zero]
      exact keep hP (fun e2 => row_ne h.row hP.2.2 e2.symm rfl (by decide))
  refine ⟨by simp [hlen], fun x hx => ?_, ?_, hps, ?_, fun k hk y hy e => ?_⟩
  · rcases List.mem_append.1 hx with h1 | h1
    · exact h.sm x h1
    · rw [List.mem_singleton.1 h1]; exact ⟨hp, hP.2.1⟩
  · rw [itVals_snoc l hs hlen, List.length_append]; exact hown
  · rw [List.pairwise_append]
    refine ⟨h.apart, List.pairwise_singleton _ _, fun a ha y hy => ?_⟩
    rw [List.mem_singleton.1 hy]
    exact hfr a ha
  · obtain ⟨i, hi, rfl⟩ := List.getElem_of_mem hy
    have hS := hps i (by simp at hi ⊢; omega)
    exact row_ne hown hS.2.2 hk (by rw [← e]; rfl) (by decide)

/-! ### what a loop that gathers items keeps -/
def GatherI (w0 : World) (B fb : Nat) (N A : Int) (pre : List Ih) (W : World) : Prop :=
  V3 W w0.heap.size 27 (.int .i64 0) (.int .i64 0) (.slice none 0 0) ∧ Below w0.heap.size w0 W ∧ B ≤ W.heap.size ∧ ∃ v, V3 W fb 27 (.int .i64 N) (.int .i64 A) v ∧ OwnI W B v (pre.map (·.1)) (pre.map (·.2))
theorem gatherI_own {w0 : World} {B fb : Nat} {N A : Int} (hB : w0.heap.size ≤ B) : OwnFrom B (GatherI w0 B fb N A) := by
  rintro pre X Y row ⟨h1, h2, h3, v, h4, h5⟩ hg hr
  exact ⟨h1.of_block (keep_cells h1 hg hr), h2.grown hg h2.size (fun k e => Nat.le_trans hB (hr k e).1), Nat.le_trans h3 hg.size, v, h4.of_block (keep_cells h4 hg hr), h5.turned hg hr⟩
theorem gatherI_alloc {w0 W : World} {B fb : Nat} {N A : Int} {pre : List Ih} (hB : w0.heap.size ≤ B) (h : GatherI w0 B fb N A pre W) (o : Obj) : GatherI w0 B fb N A pre (W.alloc o) := (gatherI_own hB).alloc o h
/-- the loop's variable: a box with the item -/
def BoxI (B : Nat) (tm : Nat → Ih → Array Value) (pre : List Ih) (x : Ih) (a : Act) (W : World) : Prop :=
  ∃ Bx, V3 W Bx 61 (.string x.1.1.1) (.string x.1.1.2) (.slice (some ⟨x.2.1, 0, none⟩) x.2.2.1 x.2.2.2) ∧ a = { tmps := tm Bx x, defers := [] } ∧ GoodI B pre x W
theorem boxI_own {B : Nat} {tm : Nat → Ih → Array Value} (pre : List Ih) (x : Ih) (a : Act) : OwnFrom B (fun (_ : Unit) W => BoxI B tm pre x a W) := by
  rintro _ X Y row ⟨Bx, h1, h2, h3, h4, h5, h6⟩ hg hr
  refine ⟨Bx, h1.of_block (keep_cells h1 hg hr), h2, h3, h4, ?_, h6⟩
  obtain ⟨cs, t, f, hc⟩ := row_cells h5.2.2 rfl
  exact ownS_of_block h5 (keep_cells hc hg hr)

set_option maxRecDepth 100000 in
set_option maxHeartbeats 1000000 in
theorem impl_proveNo (b off cap : Nat) (l : List Pr) (lo hi : ByteArray) (w : World) (h : SlP w (some ⟨b, off, none⟩) l.length l) (hks : ∀ p ∈ l, p.1.size ≤ 1099511627776) (hok : pairsOk l = false) :
    Calls Tryz.prog 9 #[.slice (some ⟨b, off, none⟩) l.length cap, .string lo, .string hi] w (PPost w (prove l lo hi)) := by
  obtain ⟨W, hW⟩ : ∃ W, W = w.alloc (.cells #[.int .i64 0, .int .i64 0, .slice none 0 0] 27) := ⟨_, rfl⟩
  have hB : Below w.heap.size w W := by rw [hW]; exact (Below.refl _ _).alloc (Nat.le_refl _) _
  have hV : V3 W w.heap.size 27 (.int .i64 0) (.int .i64 0) (.slice none 0 0) := by rw [hW]; exact heap_alloc_new w _
  have hp := impl_pairsOk b off l.length cap l W (h.below hB) hks
  rw [hok] at hp
  have HP := Hid.mk' hp
  have HW := Hid.mk' hW
  have hz : prove l lo hi = zeroPrf := by unfold prove; rw [if_neg (by rw [hok]; simp)]
  rw [hz]
  clear hp hW h hks hok hz
  go_enter Tryz.func9, Tryz.ntmps9
  go_wp2_with fail
  rw [← HW.out]
  refine HP.out.mono ?_
  rintro e w1 ⟨rfl, hb1⟩
  have hB1 := hB.trans (hb1.mono hB.size)
  have V1 := hV.below hb1
  have a0 := V1.c0
  have a1 := V1.c1
  have a2 := V1.c2
  have z0 := V1.thawed 0
  have z1 := V1.thawed 1
  have z2 := V1.thawed 2
  clear HW HP
  have hBz := ((hB1.setCell (p := ⟨w.heap.size, 0, none⟩) (Nat.le_refl _) (.int .i64 0)).setCell (p := ⟨w.heap.size, 1, none⟩) (Nat.le_refl _) (.int .i64 0)).setCell (p := ⟨w.heap.size, 2, none⟩) (Nat.le_refl _) (.slice none 0 0)
  go_wp2_with fail
  refine bodyPost_ret (v := .agg #[.int .i64 0, .int .i64 0, .slice none 0 0]) ?h1 rfl ⟨none, 0, 0, [], rfl, ownI_nil _ _, hBz⟩
  simp [results, Tryz.results9, go_sem, a0, a1, a2]

set_option maxRecDepth 100000 in
set_option maxHeartbeats 2000000 in
theorem impl_proveYes (b off cap : Nat) (l : List Pr) (lo hi : ByteArray) (w : World) (h : SlP w (some ⟨b, off, none⟩) l.length l) (hcap : l.length ≤ cap) (hks : ∀ p ∈ l, lim p) (hK : sha.KW w) (hok : pairsOk l = true) :
    Calls Tryz.prog 9 #[.slice (some ⟨b, off, none⟩) l.length cap, .string lo, .string hi] w (PPost w (prove l lo hi)) := by
  obtain ⟨⟨_, hri⟩, h60⟩ := (pairsOk_iff l).1 hok
  obtain ⟨W, hW⟩ : ∃ W, W = w.alloc (.cells #[.int .i64 0, .int .i64 0, .slice none 0 0] 27) := ⟨_, rfl⟩
  have hB : Below w.heap.size w W := by rw [hW]; exact (Below.refl _ _).alloc (Nat.le_refl _) _
  have hV : V3 W w.heap.size 27 (.int .i64 0) (.int .i64 0) (.slice none 0 0) := by rw [hW]; exact heap_alloc_new w _
  have hp := impl_pairsOk b off l.length cap l W (h.below hB) (fun p hp => by have := (hks p hp).1; omega)
  rw [hok] at hp
  have HP := Hid.mk' hp
  have HS : Hid (∀ wx, Below w.heap.size w wx → Calls Tryz.prog 30 #[.slice (some ⟨b, off, none⟩) l.length cap, .string lo, .string hi] wx fun e w' =>
      e = .returned (.tuple #[.int .i64 (fromN lo l : Int), .int .i64 (toN lo hi l : Int)]) ∧ Below wx.heap.size wx w') := fun wx hx => impl_stretchOf b off cap l lo hi wx (h.below hx) hcap hri h60
  have HW := Hid.mk' hW
  have hft : fromN lo l ≤ 60 ∧ toN lo hi l ≤ l.length := ⟨by have := lowN_le lo l; unfold fromN; omega, toN_le lo hi l⟩
  have HZ : Hid (prove l lo hi = ⟨(l.length : Int), (fromN lo l : Int), itemsTo l (fromN lo l) (toN lo hi l)⟩) := by
    show _ = _
    unfold prove
    rw [if_pos hok]
    congr 1
    split
    · rfl
    · rename_i hn
      have h1 : l.length = 0 := by
        have := segN_le lo hi l
        unfold fromN toN at hn
        split at hn <;> omega
      have : fromN lo l = 0 := by have := lowN_le lo l; unfold fromN; omega
      rw [this]; rfl
  obtain ⟨A, hA⟩ : ∃ A, fromN lo l = A := ⟨_, rfl⟩
  obtain ⟨Z, hZ⟩ : ∃ Z, toN lo hi l = Z := ⟨_, rfl⟩
  simp only [hA, hZ] at HS HZ hft
  rw [HZ.out]
  clear hp hW hok hA hZ HZ
  refine (callsIn_wide (n := 6)).1 (callsIn_of_wp_marks Tryz.func9 rfl trivial ?_ rfl)
  simp only [Tryz.ntmps9, List.size_toArray, List.length_cons, List.length_nil, Nat.reduceAdd, Nat.reduceSub, Array.replicate_succ, Array.replicate_zero, List.push_toArray, List.append_toArray, List.nil_append, List.cons_append]
  refine wpIn_wide.2 ?_
  go_wp2_with fail
  rw [← HW.out]
  refine HP.out.mono ?_
  rintro e w1 ⟨rfl, hb1⟩
  have hB1 := hB.trans (hb1.mono hB.size)
  have V1 := hV.below hb1
  go_wp2_with fail
  refine (HS.out _ hB1).mono ?_
  rintro e w2 ⟨rfl, hb2⟩
  have hB2 := hB1.trans (hb2.mono hB1.size)
  have V2 := V1.below hb2
  go_wp2_with (at_builtin; fail)
  refine (impl_itemsOf _ _ _ _ _ _).mono ?_
  rintro e w3 ⟨rfl, hw3⟩
  obtain ⟨V, hV'⟩ : ∃ V, V = w2.alloc (.cells #[.int .i64 (l.length : Int), .int .i64 (A : Int), .slice none 0 0] 27) := ⟨_, rfl⟩
  rw [← hV'] at hw3 ⊢
  have hVs : V.heap.size = w2.heap.size + 1 := by rw [hV', World.size_alloc]
  have hw3s : w3.heap.size = w2.heap.size + 4 := by rw [hw3]; simp only [World.size_alloc]; omega
  have hb3 : Below V.heap.size V w3 := by rw [hw3]; exact (((Below.refl _ V).alloc (Nat.le_refl _) _).alloc (by simp) _).alloc (by simp; omega) _
  have hbV : Below w2.heap.size w2 V := by rw [hV']; exact (Below.refl _ _).alloc (Nat.le_refl _) _
  have hb23 : Below w2.heap.size w2 w3 := hbV.trans (hb3.mono (by omega))
  have hB3 : Below w.heap.size w w3 := hB2.trans (hb23.mono hB2.size)
  have V3r := V2.below hb23
  have V3f : V3 w3 w2.heap.size 27 (.int .i64 (l.length : Int)) (.int .i64 (A : Int)) (.slice none 0 0) := by
    have h1 : V3 V w2.heap.size 27 (.int .i64 (l.length : Int)) (.int .i64 (A : Int)) (.slice none 0 0) := by rw [hV']; exact heap_alloc_new w2 _
    exact h1.below hb3
  have e3 : w3.cell? ⟨V.heap.size, 0, none⟩ = some (.slice (some ⟨b, off, none⟩) l.length cap) := by rw [hw3]; simp [go_sem]
  have e1 : w3.cell? ⟨V.heap.size + 1, 0, none⟩ = some (.int .i64 (A : Int)) := by rw [hw3]; simp [go_sem]
  have e2 : w3.cell? ⟨V.heap.size + 2, 0, none⟩ = some (.int .i64 (Z : Int)) := by rw [hw3]; simp [go_sem]
  have hs2 := hB2.size
  have hH := items_hands 5 w2.heap.size b off cap (V.heap.size + 1) (V.heap.size + 2) V.heap.size A Z l w w3 (by omega) h hcap hks hK h60 hft.2 hB3 (by omega) (by omega) (by omega) e1 e2 e3
  clear HS HP HW hb1 hb2 hB1 V1 hV hB hb3 hbV hb23 hw3 e1 e2 e3
  rw [hVs] at hH ⊢
  clear hV' hVs V
  have hfb : w2.heap.size < w3.heap.size := by omega
  have hlt2 : w.heap.size < w2.heap.size := V2.lt
  clear hw3s
  go_wp2_with fail
  refine wpIn_wide.1 (hands.wpIn_hands (n := 6) rfl (enters_of Tryz.func61 (by kernel_rfl) rfl) hH KeepF.trans ?kb (fun _ => rfl) (GatherI w w3.heap.size w2.heap.size (l.length : Int) (A : Int)) (gatherI_own (by omega)) ?start (BoxI w3.heap.size (fun Bx x => #[.slice (some ⟨b, off, none⟩) l.length cap, .string lo, .string hi, undef, undef, undef, .pointer (some ⟨w.heap.size, 0, none⟩), .int .i64 (A : Int), .int .i64 (Z : Int), .pointer (some ⟨w2.heap.size, 0, none⟩), .pointer (some ⟨Bx, 0, none⟩), .slice (some ⟨b, off, none⟩) l.length cap, .bool true, .bool false, undef, .tuple #[.int .i64 (A : Int), .int .i64 (Z : Int)], .slice (some ⟨b, off, none⟩) l.length cap, .string lo, .string hi, .tuple #[.int .i64 (A : Int), .int .i64 (Z : Int)], .int .i64 (A : Int), .int .i64 (Z : Int), .slice (some ⟨b, off, none⟩) l.length cap, .int .i64 (l.length : Int), .int .i64 (A : Int), .agg #[.int .i64 (l.length : Int), .int .i64 (A : Int), .slice none 0 0], .slice (some ⟨b, off, none⟩) l.length cap, .int .i64 (A : Int), .int .i64 (Z : Int), .func (.func 61) #[] #[.pointer (some ⟨w2.heap.size + 1 + 1, 0, none⟩), .pointer (some ⟨w2.heap.size + 1 + 2, 0, none⟩), .pointer (some ⟨w2.heap.size + 1, 0, none⟩)], .agg #[.string x.1.1.1, .string x.1.1.2, .slice (some ⟨x.2.1, 0, none⟩) x.2.2.1 x.2.2.2], undef, undef, undef, undef, undef, undef, undef])) boxI_own ?assign ?body ?done)
  case kb =>
    intro W lp o o' hle ho hc
    exact ⟨(Below.refl _ W).grown (grownBy_putObj' W lp o') (by have := (Array.getElem?_eq_some_iff.1 ho).1; omega) (fun k e => by cases e; omega), fun k hk _ => World.putObj_heap_other (by omega)⟩
  case start => exact ⟨V3r, hB3, Nat.le_refl _, _, V3f, ownI_nil _ _⟩
  case assign =>
    rintro lp pre ⟨⟨⟨ky, vl⟩, P⟩, g5, n5, c5⟩ W K hi hG hK
    dsimp only [encI]
    obtain ⟨hi1, hi2, hi3, hi4⟩ := hi
    have hbA : ∀ o, Below W.heap.size W (W.alloc o) := fun o => (Below.refl _ W).alloc (Nat.le_refl _) o
    have HK := Hid.mk' hK
    clear hK
    gi_wp2
    refine HK.out _ _ ((KeepsOthers.alloc W _).from _) (KeepF.of_below (hbA _) hi3 hi2.size) (gatherI_alloc (by omega) ⟨hi1, hi2, hi3, hi4⟩ _) ⟨W.heap.size, heap_alloc_new W _, rfl, hG.1, hG.2.1, hG.2.2.1.below (hbA _), hG.2.2.2⟩
  case body =>
    rintro lp pre ⟨⟨⟨ky, vl⟩, P⟩, g5, n5, c5⟩ a' W ⟨hi1, hi2, hi3, v, hF, hO⟩ ⟨Bx, hX, rfl, hlen, hsm, hP, hfr⟩
    dsimp only at hX hsm hP hfr ⊢
    have f0 := hF.c2
    have f1 := hF.thawed 2
    have x0 := hX.c0
    have x1 := hX.c1
    have x2 := hX.c2
    have hc3 : (pre.map (·.1)).length + 1 ≤ maxLen := by unfold maxLen; rw [List.length_map]; omega
    have hc4 : ((pre.map (·.1)).length + 1) * 56 ≤ 140737488355328 := by rw [List.length_map]; omega
    obtain ⟨i0, hif, hz0, hz1, hz2⟩ := info_parts infoI
    gi_wp2_with (gi_at_builtin; refine wpListIn_append_own _ rfl (.tmp 32) (.tmp 34) 25 rfl w3.heap.size 61 i0 (.agg #[.string ⟨#[]⟩, .string ⟨#[]⟩, .slice none 0 0]) 3 56 Tryz.underlying25 hif hz0 hz1 hz2 rfl (by decide) _ _ _ rfl (hO.row.alloc _) ⟨W.heap.size, 0, none⟩ 1 1 [.string ky, .string vl, .slice (some ⟨g5, 0, none⟩) n5 c5] rfl rfl (cells_three _ _ _ _ _) (three_oneCell _ _ _ _ _) hc3 hc4 (le_alloc _ _ hi3) ?_)
    intro v7 w7 hown hgrow hnn
    have hown' : w7.ownsRow w3.heap.size 61 3 v7 ((pre.map (·.1)).length + 1) (itVals (pre.map (·.1)) (pre.map (·.2)) ++ [.string ky, .string vl, .slice (some ⟨g5, 0, none⟩) n5 c5]) := by rw [List.length_map]; exact hown
    have hO7 := hO.push (P := P) (p := (ky, vl)) hP (fun y hy => by obtain ⟨z, hz, rfl⟩ := List.mem_map.1 hy; exact hfr z hz) hsm _ hown' hgrow
    obtain ⟨g7, cap7, hv7⟩ := row_shape hown' hnn
    subst hv7
    have hba : ∀ o, Below W.heap.size W (W.alloc o) := fun o => (Below.refl _ W).alloc (Nat.le_refl _) o
    have hrow : ∀ k, v.ownBlock = some k → w3.heap.size ≤ k := fun k e => (hO.row.lt k e).1
    have keep : ∀ k, k < W.heap.size → v.ownBlock ≠ some k → w7.heap[k]? = W.heap[k]? := fun k hk hn => (hgrow.block k (by simp; omega) (fun e => hn e.symm)).trans (Below.heap_alloc W _ k hk)
    have F7 : V3 w7 w2.heap.size 27 (.int .i64 (l.length : Int)) (.int .i64 (A : Int)) v := hF.of_block (keep _ hF.lt (fun e => by have := hrow _ e; omega))
    have R7 : V3 w7 w.heap.size 27 (.int .i64 0) (.int .i64 0) (.slice none 0 0) := hi1.of_block (keep _ hi1.lt (fun e => by have := hrow _ e; omega))
    have hW7 : Below w.heap.size W w7 := ((hba _).mono hi2.size).grown hgrow (by have := hi2.size; simp; omega) (fun k e => by have := hrow k e; omega)
    have hKO : KeepsOthers W w7 := (KeepsOthers.alloc W _).trans (KeepsOthers.of_grownBy hgrow fun j o ej hj => by
      obtain ⟨cs, t, f, hc⟩ := row_cells (hO.row.alloc _) ej
      rw [hc] at hj; cases hj; rfl)
    have f7 := F7.c2
    have z7 := F7.thawed 2
    have hs7 := hW7.size
    rw [List.length_map] at hO7
    clear hown hown' hgrow hnn f0 f1 x0 x1 x2
    have HO7 := Hid.mk' hO7
    have HF7 := Hid.mk' F7
    have HR7 := Hid.mk' R7
    have HKO := Hid.mk' hKO
    have HKP := Hid.mk' keep
    clear hO7 F7 R7 hKO keep hF hi1 hO hX hP
    gi_wp2
    refine ⟨rfl, (HKO.out.trans (KeepsOthers.setCell _ _ _)).from _, ⟨hW7.setCell (p := ⟨w2.heap.size, 2, none⟩) hs2 _, fun k hk hn => ?_⟩, ?_⟩
    · rw [Below.heap_setCell _ ⟨w2.heap.size, 2, none⟩ _ k hn]
      exact HKP.out k (by omega) (fun e => by have := hrow k e; omega)
    · refine ⟨HR7.out.beside _ (by omega), (hi2.trans hW7).setCell (p := ⟨w2.heap.size, 2, none⟩) hs2 _, ?_, _, HF7.out.put2 _, ?_⟩
      · exact Nat.le_trans (by omega : w3.heap.size ≤ w7.heap.size) (KeepsOthers.setCell _ _ _).size
      · rw [List.map_append, List.map_append]
        exact HO7.out.of_blocks (fun k hk => Below.heap_setCell _ ⟨w2.heap.size, 2, none⟩ _ k (by have := (HO7.out.lt k hk).1; show k ≠ w2.heap.size; omega))
  case done =>
    rintro D xs W hD hS ⟨hi1, hi2, hi3, v, hF, hO⟩ hKD
    have a0 := hi1.c0
    have a1 := hi1.c1
    have a2 := hi1.c2
    have z0 := hi1.thawed 0
    have z1 := hi1.thawed 1
    have z2 := hi1.thawed 2
    have d0 := hF.c0
    have d1 := hF.c1
    have d2 := hF.c2
    obtain ⟨sa, sm, sc, hv⟩ : ∃ sa sm sc, v = .slice sa sm sc := by
      rcases hO.shape with ⟨rfl, _, _⟩ | ⟨g, cg, rfl, _, _⟩
      · exact ⟨_, _, _, rfl⟩
      · exact ⟨_, _, _, rfl⟩
    subst hv
    have HO := Hid.mk' hO
    have HKD := Hid.mk' hKD
    clear hO hKD hH hF
    obtain ⟨W9, hW9⟩ : ∃ W9, W9 = ((W.setCell ⟨w.heap.size, 0, none⟩ (.int .i64 (l.length : Int))).setCell ⟨w.heap.size, 1, none⟩ (.int .i64 (A : Int))).setCell ⟨w.heap.size, 2, none⟩ (.slice sa sm sc) := ⟨_, rfl⟩
    have hR9 : V3 W9 w.heap.size 27 (.int .i64 (l.length : Int)) (.int .i64 (A : Int)) (.slice sa sm sc) := by rw [hW9]; exact ((hi1.put0 _).put1 _).put2 _
    have hB9 : Below w.heap.size w W9 := by rw [hW9]; exact ((hi2.setCell (p := ⟨w.heap.size, 0, none⟩) (Nat.le_refl _) _).setCell (p := ⟨w.heap.size, 1, none⟩) (Nat.le_refl _) _).setCell (p := ⟨w.heap.size, 2, none⟩) (Nat.le_refl _) _
    have hK9 : KeepsOthers W W9 := by rw [hW9]; exact ((KeepsOthers.setCell _ _ _).trans (KeepsOthers.setCell _ _ _)).trans (KeepsOthers.setCell _ _ _)
    have hO9 : OwnI W9 w3.heap.size (.slice sa sm sc) (xs.map (·.1)) (xs.map (·.2)) := HO.out.of_blocks (fun k hk => by
      have hk1 := (HO.out.lt k hk).1
      have hkn : k ≠ w.heap.size := by omega
      rw [hW9, Below.heap_setCell _ ⟨w.heap.size, 2, none⟩ _ k hkn, Below.heap_setCell _ ⟨w.heap.size, 1, none⟩ _ k hkn, Below.heap_setCell _ ⟨w.heap.size, 0, none⟩ _ k hkn])
    have hD9 := hK9.same D _ HKD.out rfl
    have hDlt := (Array.getElem?_eq_some_iff.1 hD9).1
    have HE : Hid (bodyPostM Fence.wide 6 Tryz.prog Tryz.f9 (PPost w ⟨(l.length : Int), (A : Int), itemsTo l A Z⟩) .ret
        { tmps := #[.slice (some ⟨b, off, none⟩) l.length cap, .string lo, .string hi, undef, undef, undef, .pointer (some ⟨w.heap.size, 0, none⟩), .int .i64 (A : Int), .int .i64 (Z : Int), .pointer (some ⟨w2.heap.size, 0, none⟩), undef, .slice (some ⟨b, off, none⟩) l.length cap, .bool true, .bool false, undef, .tuple #[.int .i64 (A : Int), .int .i64 (Z : Int)], .slice (some ⟨b, off, none⟩) l.length cap, .string lo, .string hi, .tuple #[.int .i64 (A : Int), .int .i64 (Z : Int)], .int .i64 (A : Int), .int .i64 (Z : Int), .slice (some ⟨b, off, none⟩) l.length cap, .int .i64 (l.length : Int), .int .i64 (A : Int), .agg #[.int .i64 (l.length : Int), .int .i64 (A : Int), .slice none 0 0], .slice (some ⟨b, off, none⟩) l.length cap, .int .i64 (A : Int), .int .i64 (Z : Int), .func (.func 61) #[] #[.pointer (some ⟨w2.heap.size + 1 + 1, 0, none⟩), .pointer (some ⟨w2.heap.size + 1 + 2, 0, none⟩), .pointer (some ⟨w2.heap.size + 1, 0, none⟩)], undef, undef, undef, undef, undef, undef, undef, .agg #[.int .i64 (l.length : Int), .int .i64 (A : Int), .slice sa sm sc]], defers := [{ target := .collected D, args := #[] }] } W9) := by
      refine ⟨by simp, .inl ⟨D, _, rfl, run_takeDeferred hD9, ?_⟩⟩
      have hR10 : V3 (W9.putObj D (.deferred none)) w.heap.size 27 (.int .i64 (l.length : Int)) (.int .i64 (A : Int)) (.slice sa sm sc) := hR9.of_block (World.putObj_heap_other (by omega))
      refine ⟨_, results_cell_row (p := 6) (ty := 27) rfl _ _ w.heap.size _ _ _ _ rfl hR10 Tryz.underlying27 rfl (by kernel_rfl), sa, sm, sc, xs.map (·.2), rfl, ?_, ?_⟩
      · rw [← hS]
        refine (hO9.mono (by omega)).turned (B := 0) (grownBy_putObj' W9 D (.deferred none)) (fun r e => ?_)
        cases e; exact ⟨Nat.zero_le _, _, hD9, rfl⟩
      · exact hB9.grown (grownBy_putObj' W9 D (.deferred none)) hB9.size (fun k e => by cases e; omega)
    have HW9 := Hid.mk' hW9
    clear hW9 hR9 hB9 hK9 hO9 hD9 hDlt HO HKD
    go_wp2_with fail
    rw [← HW9.out]
    exact HE.out

set_option maxHeartbeats 1000000 in
theorem impl_proveBetween (b off len cap : Nat) (l : List Pr) (lo hi : ByteArray) (w : World) (h : SlP w (some ⟨b, off, none⟩) len l) (hcap : len ≤ cap) (hks : ∀ p ∈ l, lim p) (hlo : lo.size ≤ 1048576) (hhi : hi.size ≤ 1048576) (hK : sha.KW w) :
    Calls Tryz.prog 9 #[.slice (some ⟨b, off, none⟩) len cap, .string lo, .string hi] w fun e w' =>
      ∃ a m c hs, e = .returned (.agg #[.int .i64 (prove l lo hi).n, .int .i64 (prove l lo hi).fr, .slice a m c]) ∧ OwnI w' w.heap.size (.slice a m c) (prove l lo hi).items hs ∧ Below w.heap.size w w' := by
  have hl := h.1
  subst hl
  cases hok : pairsOk l with
  | true => exact impl_proveYes b off cap l lo hi w h hcap hks hK hok
  | false => exact impl_proveNo b off cap l lo hi w h (fun p hp => by have := (hks p hp).1; omega) hok
end Go.Proofs.YtdebbgodhpcijaaGreatDoor.range
