/- The contracts of slices.BinarySearch and slices.Insert at []int, as the library proves them, at this program; a number inserted into a row of the call's own, whether there is room or not. -/
import Derived.Shelf.Slices.SearchI
import Derived.Shelf.Spec.SlicesInsertGrow
import Derived.Test.YtdeaiefhegjalaaGreatBund12at
import Derived.Test.YtdeaiefhegjalaaGreatBund13i
namespace Go.Proofs.YtdeaiefhegjalaaGreat.ins
open Go Go.Proofs Go.Shelf Go.RowKit Go.Proofs.YtdeaiefhegjalaaGreat.base Go.Proofs.YtdeaiefhegjalaaGreat.lay Go.Proofs.YtdeaiefhegjalaaGreat.ords Go.Proofs.YtdeaiefhegjalaaGreat.cos
set_option linter.unusedVariables false
set_option linter.unusedSimpArgs false

def ren21 : Go.Shelf.Ren := ⟨fun | 21 => 132 | 27 => 162 | 28 => 163 | 35 => 185 | 39 => 195 | 25 => 131 | 31 => 160 | 32 => 161 | 37 => 184 | _ => 0,
  fun | 0 => 0 | 3 => 3 | 4 => 4 | 22 => 92 | 40 => 168 | _ => 0, fun _ => 0⟩
theorem lays21 : Go.Proofs.Lays2.n21 Tryz.prog ren21 := {
  mixed := by kernel_rfl
  f21 := Tryz.func132.trans (congrArg some (by kernel_rfl))
  f27 := Tryz.func162.trans (congrArg some (by kernel_rfl))
  f28 := Tryz.func163.trans (congrArg some (by kernel_rfl))
  f35 := Tryz.func185.trans (congrArg some (by kernel_rfl))
  f39 := Tryz.func195.trans (congrArg some (by kernel_rfl))
  t0 := Tryz.underlying0
  a0 := Tryz.isAgg0
  z0 := Tryz.sizeOf0
  v0 := Tryz.zeroValue0
  t3 := Tryz.underlying3
  a3 := Tryz.isAgg3
  z3 := Tryz.sizeOf3
  v3 := Tryz.zeroValue3
  t4 := Tryz.underlying4
  a4 := Tryz.isAgg4
  z4 := Tryz.sizeOf4
  v4 := Tryz.zeroValue4
  t22 := Tryz.underlying92
  a22 := Tryz.isAgg92
  z22 := Tryz.sizeOf92
  v22 := Tryz.zeroValue92
  i3 := by kernel_rfl }
theorem lays25 : Go.Proofs.Lays2.n25 Tryz.prog ren21 := {
  mixed := by kernel_rfl
  f25 := Tryz.func131.trans (congrArg some (by kernel_rfl))
  f31 := Tryz.func160.trans (congrArg some (by kernel_rfl))
  f32 := Tryz.func161.trans (congrArg some (by kernel_rfl))
  f37 := Tryz.func184.trans (congrArg some (by kernel_rfl))
  t0 := Tryz.underlying0
  a0 := Tryz.isAgg0
  z0 := Tryz.sizeOf0
  v0 := Tryz.zeroValue0
  t3 := Tryz.underlying3
  a3 := Tryz.isAgg3
  z3 := Tryz.sizeOf3
  v3 := Tryz.zeroValue3
  t4 := Tryz.underlying4
  a4 := Tryz.isAgg4
  z4 := Tryz.sizeOf4
  v4 := Tryz.zeroValue4
  t22 := Tryz.underlying92
  a22 := Tryz.isAgg92
  z22 := Tryz.sizeOf92
  v22 := Tryz.zeroValue92
  t40 := Tryz.underlying168
  a40 := Tryz.isAgg168
  z40 := Tryz.sizeOf168
  v40 := Tryz.zeroValue168 }
/-- cells written one behind the other into a row of the call's own -/
theorem row_setCells {base : Nat} {e : TypeId} {size g n cap : Nat} (us : List Value) : ∀ (w : World) (o : Nat) (xs : List Value), w.ownsRow base e size (.slice (some ⟨g, 0, none⟩) n cap) n xs → (w.setCells g o us).ownsRow base e size (.slice (some ⟨g, 0, none⟩) n cap) n (setAll xs o us) ∧ w.grownBy (w.setCells g o us) (some g) := by
  induction us with
  | nil => intro w o xs h; exact ⟨h, ⟨rfl, rfl, rfl, Nat.le_refl _, fun _ _ _ => rfl⟩⟩
  | cons u us ih =>
    intro w o xs h
    obtain ⟨h1, g1⟩ := h.stored o u
    obtain ⟨h2, g2⟩ := ih _ (o + 1) _ h1
    exact ⟨h2, ⟨g2.os.trans g1.os, g2.tape.trans g1.tape, g2.output.trans g1.output, Nat.le_trans g1.size g2.size, fun k hk hne => (g2.block k (Nat.lt_of_lt_of_le hk g1.size) hne).trans (g1.block k hk hne)⟩⟩
/-- a row with room has one more cell -/
theorem row_more {w : World} {base : Nat} {e : TypeId} {g n cap : Nat} {xs : List Value} (h : w.ownsRow base e 1 (.slice (some ⟨g, 0, none⟩) n cap) n xs) (hr : n < cap) : ∃ y, w.ownsRow base e 1 (.slice (some ⟨g, 0, none⟩) (n + 1) cap) (n + 1) (xs ++ [y]) ∧ w.cell? ⟨g, n, none⟩ = some y ∧ ∃ cur : Array Value, w.heap[g]? = some (.cells cur e (0, 0)) ∧ cur.size = cap := by
  rcases h.2 with ⟨h', _⟩ | ⟨g', cap', cur, h', hb, hg, hnc, hcm, hcs, htake⟩
  · simp at h'
  · simp only [Value.slice.injEq, Option.some.injEq, Addr.mk.injEq, and_true, true_and] at h'
    obtain ⟨rfl, rfl⟩ := h'
    have hsz : n < cur.size := by omega
    have hxl := h.1
    refine ⟨cur[n], ⟨by simp; omega, .inr ⟨g, cap, cur, rfl, hb, hg, by omega, hcm, hcs, ?_⟩⟩, ?_, cur, hg, by omega⟩
    · rw [← htake]
      simp only [Nat.mul_one]
      rw [List.take_succ_eq_append_getElem (by simpa using hsz)]
      simp
    · simp [World.cell?, hg, hsz]
theorem zero_ints (k : Nat) : (Builtin.zeroCells (Value.int .i64 0).cells k).toList = List.replicate k (.int .i64 0) := by
  refine List.eq_replicate_iff.2 ⟨by simp [Builtin.zeroCells, Value.cells], fun b hb => ?_⟩
  simp [Builtin.zeroCells, Value.cells] at hb
  obtain ⟨j, _, rfl⟩ := hb
  rw [Nat.mod_one]; rfl
theorem insert_list {zs : List Int} {i : Nat} (hi : i ≤ zs.length) (x : Int) (y : Value) : setAll (setAll (intVals zs ++ [y]) (i + 1) ((intVals zs).drop i)) i (intVals [x]) = intVals (zs.take i ++ x :: zs.drop i) := by
  have hl : (intVals zs).length = zs.length := intVals_length zs
  have hdl : ((intVals zs).drop i).length = zs.length - i := by rw [List.length_drop, hl]
  have hx1 : (intVals [x]).length = 1 := rfl
  refine List.ext_getElem? fun j => ?_
  rw [setAll_get _ _ _ _ (by rw [setAll_length, List.length_append, hl, hx1]; simp; omega), setAll_get _ _ _ _ (by rw [List.length_append, hdl, hl]; simp; omega), hdl, hx1]
  have hR : intVals (zs.take i ++ x :: zs.drop i) = (intVals zs).take i ++ Value.int .i64 x :: (intVals zs).drop i := by simp [intVals, List.map_take, List.map_drop]
  rw [hR]
  have htl : ((intVals zs).take i).length = i := by rw [List.length_take, hl]; omega
  by_cases h1 : i ≤ j ∧ j < i + 1
  · have e : j = i := by omega
    subst e
    rw [if_pos h1, List.getElem?_append_right (by omega), htl, Nat.sub_self]
    rfl
  · rw [if_neg h1]
    by_cases h2 : i + 1 ≤ j ∧ j < i + 1 + (zs.length - i)
    · rw [if_pos h2, List.getElem?_append_right (by omega), htl, show j - i = (j - (i + 1)) + 1 by omega, List.getElem?_cons_succ]
    · rw [if_neg h2]
      by_cases h3 : j < i
      · rw [List.getElem?_append_left (by omega), List.getElem?_append_left (by omega), List.getElem?_take_of_lt h3]
      · rw [List.getElem?_eq_none (by simp [hl]; omega), List.getElem?_eq_none (by simp [htl, hdl]; omega)]
set_option maxRecDepth 100000 in
set_option maxHeartbeats 2000000 in
/-- where a number is searched in no numbers -/
theorem search_none (ya : Option Addr) (c : Nat) (x : Int) (w : World) :
    Calls Tryz.prog 131 #[.slice ya 0 c, .int .i64 x] w fun e w' => e = .returned (.tuple #[.int .i64 0, .bool false]) ∧ Below w.heap.size w w' := by
  go_enter Tryz.func131, Tryz.ntmps131
  go_wp2
  go_loopw [7, 8] (fun s7 s8 wr => s7 = .int .i64 0 ∧ s8 = .int .i64 0 ∧ wr = w) (fun _ _ _ => 0)
  case atStart => exact ⟨rfl, rfl, rfl⟩
  case round =>
    obtain ⟨rfl, rfl, hw⟩ := hrel
    subst hw
    go_wp2
    go_ret2
    exact ⟨rfl, Below.refl _ _⟩
/-- where a number is searched in a row that rises -/
theorem search_int (ya : Option Addr) (n c : Nat) (zs : List Int) (x : Int) (w : World) (h : SlZ w ya n zs) (ha : Asc zs) (hn : n ≤ 8) :
    Calls Tryz.prog 131 #[.slice ya n c, .int .i64 x] w fun e w' => e = .returned (.tuple #[.int .i64 (zs.countP (fun z => decide (z < x)) : Nat), .bool (decide (x ∈ zs))]) ∧ Below w.heap.size w w' := by
  obtain ⟨rfl, hm, hc⟩ := h
  by_cases h0 : zs.length = 0
  · obtain rfl : zs = [] := List.eq_nil_of_length_eq_zero h0
    refine (search_none ya c x w).mono ?_
    rintro e w' ⟨rfl, hb⟩
    exact ⟨by simp, hb⟩
  · obtain ⟨b, off, rfl, hcz⟩ := hc (by omega)
    have L := Any.slices_BinarySearch_int lays25 b off zs.length c zs x w (Nat.le_refl _) (by omega) (fun j hj => by
      rw [hcz j hj]
      simp [List.getD_eq_getElem?_getD, List.getElem?_eq_getElem hj]) (by
      rw [List.take_length]
      exact ha.imp fun h => Int.le_of_lt h)
    refine Calls.mono L ?_
    rintro e w' ⟨rfl, q, rfl⟩
    refine ⟨?_, ⟨rfl, rfl, rfl, Nat.le_refl _, fun _ _ => rfl⟩⟩
    have hce : zs.contains x = decide (x ∈ zs) := by rw [Bool.eq_iff_iff]; simp
    rw [List.take_length, hce]
/-- a number is inserted into a row of the call's own -/
theorem insert_int (ya : Option Addr) (n c i vb : Nat) (zs : List Int) (x : Int) (w : World) (h : OwnZV w (.slice ya n c) zs) (hnl : zs.length = n) (hn : n ≤ 8) (hi : i ≤ n) (hx : (Lit.int .i64 x).wf = true) (hv : w.heap[vb]? = some (.cells #[.int .i64 x] 3 (0, 0))) (hne : (Value.slice ya n c).ownBlock ≠ some vb) :
    Calls Tryz.prog 132 #[.slice ya n c, .int .i64 (i : Int), .slice (some ⟨vb, 0, none⟩) 1 1] w fun e w' => ∃ ra rc, e = .returned (.slice (some ⟨ra, 0, none⟩) (n + 1) rc) ∧ OwnZV w' (.slice (some ⟨ra, 0, none⟩) (n + 1) rc) (zs.take i ++ x :: zs.drop i) ∧ (some ra = (Value.slice ya n c).ownBlock ∨ w.heap.size ≤ ra) ∧ w.grownBy w' (Value.slice ya n c).ownBlock := by
  obtain ⟨hwf, hrow⟩ := h
  rw [hnl] at hrow
  have hnw : ∀ z ∈ zs.take i ++ x :: zs.drop i, (Lit.int .i64 z).wf = true := fun z hz => by
    rcases List.mem_append.1 hz with e | e
    · exact hwf z (List.mem_of_mem_take e)
    · rcases List.mem_cons.1 e with e | e
      · rw [e]; exact hx
      · exact hwf z (List.mem_of_mem_drop e)
  have hnl2 : (zs.take i ++ x :: zs.drop i).length = n + 1 := by simp; omega
  have hivl : (intVals zs).length = n := by rw [intVals_length, hnl]
  have hvs : ∀ (j : Nat) (v : Value), (intVals [x])[j]? = some v → w.cell? ⟨vb, 0 + j, none⟩ = some v := fun j v hj => by
    match j, hj with
    | 0, hj => simp [intVals] at hj; subst hj; simp [World.cell?, hv]
  have h1v := intVals_oneCell [x]
  have h1c := intVals_oneCell zs
  have hvf : ∀ k, w.frozen? ⟨vb, k, none⟩ = false := fun k => by simp [World.frozen?, hv]
  have hfin : ∀ (w' : World) (ra rc : Nat), w'.ownsRow 0 3 1 (.slice (some ⟨ra, 0, none⟩) (n + 1) rc) (n + 1) (intVals (zs.take i ++ x :: zs.drop i)) → OwnZV w' (.slice (some ⟨ra, 0, none⟩) (n + 1) rc) (zs.take i ++ x :: zs.drop i) := fun w' ra rc h => ⟨hnw, by rw [hnl2]; exact h⟩
  have hnew : ∀ (cap : Nat) (cur : List Value), n + 1 ≤ cap → cap ≤ maxLen → cur.length = cap → cur.take (n + 1) = intVals (zs.take i ++ x :: zs.drop i) → ∀ w' : World, w'.os = w.os → w'.tape = w.tape → w'.output = w.output → w'.heap = w.heap.push (.cells cur.toArray 3 (0, 0)) → w'.ownsRow 0 3 1 (.slice (some ⟨w.heap.size, 0, none⟩) (n + 1) cap) (n + 1) (intVals (zs.take i ++ x :: zs.drop i)) ∧ w.grownBy w' (Value.slice ya n c).ownBlock := fun cap cur h1 h2 h3 h4 w' e1 e2 e3 e4 => by
    refine ⟨⟨by rw [intVals_length, hnl2, Nat.mul_one], .inr ⟨w.heap.size, cap, cur.toArray, rfl, Nat.zero_le _, by rw [e4]; simp, h1, h2, by simpa using h3, by simpa using h4⟩⟩, ⟨e1, e2, e3, by rw [e4]; simp, fun k hk _ => by rw [e4, Array.getElem?_push_lt hk]; simp [hk]⟩⟩
  have hcell : ∀ a, ya = some a → ∀ (j : Nat) (v : Value), (intVals zs)[j]? = some v → w.cell? (a.add j) = some v := fun a ha j v hj => by
    subst ha
    rcases hrow.2 with ⟨h', _⟩ | ⟨g', cap', cur, h', _⟩
    · cases h'
    · simp only [Value.slice.injEq, Option.some.injEq] at h'
      obtain ⟨rfl, _⟩ := h'
      exact hrow.cells rfl j v hj
  have hcap : n ≤ c ∧ c ≤ maxLen := by
    rcases hrow.2 with ⟨h', h0⟩ | ⟨g', cap', cur, h', _, _, h1, h2, _⟩
    · cases h'; exact ⟨Nat.le_refl _, Nat.zero_le _⟩
    · cases h'; exact ⟨h1, h2⟩
  have hmx : maxLen = 9223372036854775807 := rfl
  by_cases hroom : n + 1 ≤ c
  · obtain ⟨g, rfl⟩ : ∃ g, ya = some ⟨g, 0, none⟩ := by
      rcases hrow.2 with ⟨h', h0⟩ | ⟨g', cap', cur, h', _⟩
      · cases h'; omega
      · cases h'; exact ⟨_, rfl⟩
    obtain ⟨y, hr1, hyc, cur, hcur, hcs⟩ := row_more hrow (by omega)
    have hgv : vb ≠ g := fun e => hne (by rw [e]; rfl)
    have hsp : ∀ j, j < n + 1 → (w.cell? ⟨g, 0 + j, none⟩).isSome = true := fun j hj => by
      have : j < cur.size := by omega
      simp [World.cell?, hcur, this]
    have hfz : ∀ j, w.frozen? ⟨g, j, none⟩ = false := fun j => hrow.frozenAt j
    have hdr : w.drew.ownsRow 0 3 1 (.slice (some ⟨g, 0, none⟩) (n + 1) c) (n + 1) (intVals zs ++ [y]) := hr1
    by_cases hin : i < n
    · have L := Any2.slices_Insert_int_shift lays21 g 0 n c i vb 0 1 1 (intVals zs) (intVals [x]) w hin (by decide) hroom (by omega) hgv hivl rfl (fun j v hj => by have := hcell _ rfl j v hj; rwa [Addr.add_lit] at this) hsp (fun j _ => hfz _) hvs h1c h1v 3 3 1 cur.size (by simp [World.shape?, hv]) (by simp [World.shape?, hcur]) (by omega) (hvf _) (hvf _)
      refine Calls.mono L ?_
      rintro e w' ⟨rfl, rfl⟩
      obtain ⟨h1, g1⟩ := row_setCells ((intVals zs).drop i) w.drew (i + 1) _ hdr
      obtain ⟨h2, g2⟩ := row_setCells (intVals [x]) _ i _ h1
      rw [insert_list (by omega) x y] at h2
      simp only [Nat.zero_add] at *
      exact ⟨g, c, rfl, hfin _ _ _ h2, .inl rfl, ⟨g2.os.trans g1.os, g2.tape.trans g1.tape, g2.output.trans g1.output, Nat.le_trans g1.size g2.size, fun k hk hne => (g2.block k (Nat.lt_of_lt_of_le hk g1.size) hne).trans (g1.block k hk hne)⟩⟩
    · obtain rfl : i = n := by omega
      have L := Any2.slices_Insert_int_end_room lays21 g 0 i c vb 0 1 1 (intVals [x]) w (by decide) hroom (by omega) rfl (fun j hj => by have := hsp (i + j) (by omega); simpa using this) (fun j hj => hfz _) hvs h1v
      refine Calls.mono L ?_
      rintro e w' ⟨rfl, rfl⟩
      obtain ⟨h2, g2⟩ := row_setCells (intVals [x]) w i _ hr1
      have e := insert_list (zs := zs) (i := i) (by omega) x y
      rw [List.drop_eq_nil_of_le (by omega)] at e
      simp only [setAll] at e
      rw [show setAll (intVals zs ++ [y]) i (intVals [x]) = intVals (zs.take i ++ x :: zs.drop i) from e] at h2
      simp only [Nat.zero_add]
      exact ⟨g, c, rfl, hfin _ _ _ h2, .inl rfl, g2⟩
  · have hge := grownCap_ge w (n + 1) c 3
    have hle := grownCap_le_maxLen w (n + 1) c 3 (by omega)
    by_cases hin : i < n
    · obtain ⟨g, rfl⟩ : ∃ g, ya = some ⟨g, 0, none⟩ := by
        rcases hrow.2 with ⟨h', h0⟩ | ⟨g', cap', cur, h', _⟩
        · cases h'; omega
        · cases h'; exact ⟨_, rfl⟩
      have L := Any2.slices_Insert_int_grow lays21 g 0 n c i vb 0 1 1 (intVals zs) (intVals [x]) w hin (by decide) hcap.1 (by omega) (by omega) hivl rfl (fun j v hj => by have := hcell _ rfl j v hj; rwa [Addr.add_lit] at this) hvs h1c h1v
      refine Calls.mono L ?_
      rintro e w' ⟨rfl, hw'⟩
      clear L
      change w' = (((w.alloc (.cells (((intVals zs).take i).toArray ++ Builtin.zeroCells (Value.int .i64 0).cells (n + 1 - i) ++ Builtin.zeroCells (Value.int .i64 0).cells (grownCap w (n + 1) c 3 - (n + 1))) 3)).drew.setCells w.heap.size i (intVals [x])).drew).setCells w.heap.size (i + 1) ((intVals zs).drop i) at hw'
      change ∃ ra rc, Ending.returned (Value.slice (some ⟨w.heap.size, 0, none⟩) (n + 1) (grownCap w (n + 1) c 3)) = _ ∧ _
      generalize hG : grownCap w (n + 1) c 3 = G at *
      obtain ⟨W0, hW0⟩ : ∃ W0, (w.alloc (.cells (((intVals zs).take i).toArray ++ Builtin.zeroCells (Value.int .i64 0).cells (n + 1 - i) ++ Builtin.zeroCells (Value.int .i64 0).cells (G - (n + 1))) 3)) = W0 := ⟨_, rfl⟩
      have hzc := zero_ints
      have hR0 : W0.ownsRow 0 3 1 (.slice (some ⟨w.heap.size, 0, none⟩) (n + 1) G) (n + 1) ((intVals zs).take i ++ List.replicate (n + 1 - i) (.int .i64 0)) ∧ w.grownBy W0 (Value.slice (some ⟨g, 0, none⟩) n c).ownBlock := by
        rw [← hW0]
        refine ⟨⟨by simp [hivl]; omega, .inr ⟨w.heap.size, G, _, rfl, Nat.zero_le _, heap_alloc_new w _, hge, hle, ?_, ?_⟩⟩, ⟨rfl, rfl, rfl, by simp, fun k hk _ => heap_alloc_old w _ hk⟩⟩
        · have := congrArg List.length (hzc (n + 1 - i)); have := congrArg List.length (hzc (G - (n + 1)))
          simp [hivl] at *
          omega
        · simp only [Array.toList_append, hzc, Nat.mul_one]
          rw [List.take_append_of_le_length (by simp [hivl]; omega), List.take_of_length_le (by simp [hivl]; omega)]
      obtain ⟨h1, g1⟩ := row_setCells (intVals [x]) W0 i _ hR0.1
      obtain ⟨h2, g2⟩ := row_setCells ((intVals zs).drop i) _ (i + 1) _ h1
      have el : setAll (setAll ((intVals zs).take i ++ List.replicate (n + 1 - i) (.int .i64 0)) i (intVals [x])) (i + 1) ((intVals zs).drop i) = intVals (zs.take i ++ x :: zs.drop i) := by
        have hdl : ((intVals zs).drop i).length = n - i := by rw [List.length_drop, hivl]
        have hx1 : (intVals [x]).length = 1 := rfl
        have htl : ((intVals zs).take i).length = i := by rw [List.length_take, hivl]; omega
        have hll : ((intVals zs).take i ++ List.replicate (n + 1 - i) (Value.int .i64 0)).length = n + 1 := by rw [List.length_append, htl, List.length_replicate]; omega
        have hR : intVals (zs.take i ++ x :: zs.drop i) = (intVals zs).take i ++ Value.int .i64 x :: (intVals zs).drop i := by simp [intVals, List.map_take, List.map_drop]
        refine List.ext_getElem? fun j => ?_
        rw [setAll_get _ _ _ _ (by rw [setAll_length, hll, hdl]; omega), setAll_get _ _ _ _ (by rw [hll, hx1]; omega), hdl, hx1, hR]
        by_cases h2 : i + 1 ≤ j ∧ j < i + 1 + (n - i)
        · rw [if_pos h2, List.getElem?_append_right (by omega), htl, show j - i = (j - (i + 1)) + 1 by omega, List.getElem?_cons_succ]
        · rw [if_neg h2]
          by_cases h1 : i ≤ j ∧ j < i + 1
          · have e : j = i := by omega
            subst e
            rw [if_pos h1, List.getElem?_append_right (by omega), htl, Nat.sub_self]
            rfl
          · rw [if_neg h1]
            by_cases h3 : j < i
            · rw [List.getElem?_append_left (by omega), List.getElem?_append_left (by omega)]
            · rw [List.getElem?_eq_none (by omega), List.getElem?_eq_none (by simp [htl, hdl]; omega)]
      rw [el] at h2
      have hb2 : ∀ k, k < w.heap.size → some k ≠ some w.heap.size := fun k hk e => by have := Option.some.inj e; omega
      have hs1 := hR0.2.size
      have hs2 := g1.size
      have hs3 := g2.size
      rw [hW0, ← drew_setCells, ← drew_setCells, ← drew_setCells] at hw'
      subst hw'
      refine ⟨w.heap.size, G, rfl, hfin _ _ _ h2, .inr (Nat.le_refl _), ?_⟩
      exact ⟨g2.os.trans (g1.os.trans hR0.2.os), g2.tape.trans (g1.tape.trans hR0.2.tape), g2.output.trans (g1.output.trans hR0.2.output), (show w.heap.size ≤ ((W0.setCells w.heap.size i (intVals [x])).setCells w.heap.size (i + 1) ((intVals zs).drop i)).heap.size by omega), fun k hk hne => (g2.block k (by omega) (hb2 k hk)).trans ((g1.block k (by omega) (hb2 k hk)).trans (hR0.2.block k hk hne))⟩
    · obtain rfl : i = n := by omega
      have L := Any2.slices_Insert_int_end_grow lays21 ya i c vb 0 1 1 (intVals zs) (intVals [x]) w (by decide) hcap.1 (by omega) (by omega) hivl rfl (fun e => by
        subst e
        rcases hrow.2 with ⟨h', h0⟩ | ⟨g', cap', cur, h', _⟩
        · exact h0
        · cases h') hcell hvs h1v
      refine Calls.mono L ?_
      rintro e w' ⟨rfl, hw'⟩
      subst hw'
      have el : zs.take i ++ x :: zs.drop i = zs ++ [x] := by rw [List.take_of_length_le (by omega), List.drop_eq_nil_of_le (by omega)]
      have hzc := zero_ints
      refine ⟨w.heap.size, grownCap w (i + 1) c 3, rfl, hfin _ _ _ ?_, .inr (Nat.le_refl _), ⟨rfl, rfl, rfl, by simp, fun k hk _ => heap_alloc_old w.drew _ hk⟩⟩
      refine ⟨by rw [intVals_length, hnl2, Nat.mul_one], .inr ⟨w.heap.size, _, _, rfl, Nat.zero_le _, heap_alloc_new w.drew _, hge, hle, ?_, ?_⟩⟩
      · have hz := congrArg List.length (hzc (grownCap w (i + 1) c 3 - (i + 1)))
        rw [Array.length_toList, List.length_replicate] at hz
        have h1 : (intVals [x]).length = 1 := rfl
        simp only [Array.size_append, List.size_toArray, List.length_append, hivl, h1, Nat.mul_one]
        change _ + (Builtin.zeroCells (Value.int .i64 0).cells (grownCap w (i + 1) c 3 - (i + 1))).size = _
        rw [hz]
        omega
      · simp only [Array.toList_append, hzc, Nat.mul_one]
        rw [el, intVals_append]
        rw [List.take_append_of_le_length (by simp [hivl, intVals_length]), List.take_of_length_le (by simp [hivl, intVals_length])]
end Go.Proofs.YtdeaiefhegjalaaGreat.ins
