/- The contracts of slices.BinarySearch and slices.Insert at []int, as the library proves them, at this program; a number inserted into a row of the call's own, whether there is room or not. The program's one who decides: a shard's yes is put among those of a job, in place or not. The program's Vote. -/
import Derived.Shelf.Slices.SearchI
import Derived.Shelf.Spec.SlicesInsertGrow
import Derived.Test.YtdeaiefhegjalaaBund12at
import Derived.Test.YtdeaiefhegjalaaBund13i
import Derived.Test.YtdeaiefhegjalaaBund14g
import Derived.Test.YtdeaiefhegjalaaBund12bg
namespace Go.Proofs.Ytdeaiefhegjalaa.ins
open Go Go.Proofs Go.Shelf Go.RowKit Go.Proofs.Ytdeaiefhegjalaa.base Go.Proofs.Ytdeaiefhegjalaa.lay Go.Proofs.Ytdeaiefhegjalaa.ords Go.Proofs.Ytdeaiefhegjalaa.cos
set_option linter.unusedVariables false
set_option linter.unusedSimpArgs false

def ren21 : Go.Shelf.Ren := ⟨fun | 21 => 53 | 27 => 78 | 28 => 79 | 35 => 94 | 39 => 98 | 25 => 52 | 31 => 69 | 32 => 77 | 37 => 90 | _ => 0,
  fun | 0 => 0 | 3 => 3 | 4 => 4 | 22 => 35 | 40 => 80 | _ => 0, fun _ => 0⟩
theorem lays21 : Go.Proofs.Lays2.n21 Try.prog ren21 := {
  mixed := by kernel_rfl
  f21 := Try.func53.trans (congrArg some (by kernel_rfl))
  f27 := Try.func78.trans (congrArg some (by kernel_rfl))
  f28 := Try.func79.trans (congrArg some (by kernel_rfl))
  f35 := Try.func94.trans (congrArg some (by kernel_rfl))
  f39 := Try.func98.trans (congrArg some (by kernel_rfl))
  t0 := Try.underlying0
  a0 := Try.isAgg0
  z0 := Try.sizeOf0
  v0 := Try.zeroValue0
  t3 := Try.underlying3
  a3 := Try.isAgg3
  z3 := Try.sizeOf3
  v3 := Try.zeroValue3
  t4 := Try.underlying4
  a4 := Try.isAgg4
  z4 := Try.sizeOf4
  v4 := Try.zeroValue4
  t22 := Try.underlying35
  a22 := Try.isAgg35
  z22 := Try.sizeOf35
  v22 := Try.zeroValue35
  i3 := by kernel_rfl }
theorem lays25 : Go.Proofs.Lays2.n25 Try.prog ren21 := {
  mixed := by kernel_rfl
  f25 := Try.func52.trans (congrArg some (by kernel_rfl))
  f31 := Try.func69.trans (congrArg some (by kernel_rfl))
  f32 := Try.func77.trans (congrArg some (by kernel_rfl))
  f37 := Try.func90.trans (congrArg some (by kernel_rfl))
  t0 := Try.underlying0
  a0 := Try.isAgg0
  z0 := Try.sizeOf0
  v0 := Try.zeroValue0
  t3 := Try.underlying3
  a3 := Try.isAgg3
  z3 := Try.sizeOf3
  v3 := Try.zeroValue3
  t4 := Try.underlying4
  a4 := Try.isAgg4
  z4 := Try.sizeOf4
  v4 := Try.zeroValue4
  t22 := Try.underlying35
  a22 := Try.isAgg35
  z22 := Try.sizeOf35
  v22 := Try.zeroValue35
  t40 := Try.underlying80
  a40 := Try.isAgg80
  z40 := Try.sizeOf80
  v40 := Try.zeroValue80 }
/-- cells written one behind the other into a row of the call's own -/
theorem row_setCells {base : Nat} {e : TypeId} {size g n cap : Nat} (us : List Value) : ∀ (w : World) (o : Nat) (xs : List Value), w.ownsRow base e size (.slice (some ⟨g, 0, none⟩) n cap) n xs → (w.setCells g o us).ownsRow base e size (.slice (some ⟨g, 0, none⟩) n cap) n (setAll xs o us) ∧ w.grownBy (w.setCells g o us) (some g) := by
  induction us with
  | nil => intro w o xs h; exact ⟨h, ⟨rfl, rfl, rfl, Nat.le_refl _, fun _ _ _ => rfl⟩⟩
  | cons u us ih =>
    intro w o xs h
    obtain ⟨h1, g1⟩ := h.stored o u
    obtain ⟨h2, g2⟩ := ih _ (o + 1) _ h1
    exact ⟨h2, ⟨g2.os.trans g1.os, g2.tape.trans g1.tape, g2.output.trans g1.output, Nat.le_trans g1.size g2.size, fun k hk hne => (g2.block k (Nat.lt_of_lt_of_le hk g1.size) hne).trans (g1.block k hk hne)⟩⟩
/-- a row with room has one more cell -/
theorem row_more {w : World} {base : Nat} {e : TypeId} {g n cap : Nat} {xs : List Value} (h : w.ownsRow base e 1 (.slice (some ⟨g, 0, none⟩) n cap) n xs) (hr : n < cap) : ∃ y, w.ownsRow base e 1 (.slice (some ⟨g, 0, none⟩) (n + 1) cap) (n + 1) (xs ++ [y]) ∧ w.cell? ⟨g, n, none⟩ = some y ∧ ∃ cur : Array Value, w.heap[g]? = some (.cells cur e (0, 0)) ∧ cur.size = cap := by
  rcases h.2 with ⟨h', _⟩ | ⟨g', cap', cur, h', hb, hg, hnc, hcm, hcs, htake⟩
  · simp at h'
  · simp only [Value.slice.injEq, Option.some.injEq, Addr.mk.injEq, and_true, true_and] at h'
    obtain ⟨rfl, rfl⟩ := h'
    have hsz : n < cur.size := by omega
    have hxl := h.1
    refine ⟨cur[n], ⟨by simp; omega, .inr ⟨g, cap, cur, rfl, hb, hg, by omega, hcm, hcs, ?_⟩⟩, ?_, cur, hg, by omega⟩
    · rw [← htake]
      simp only [Nat.mul_one]
      rw [List.take_succ_eq_append_getElem (by simpa using hsz)]
      simp
    · simp [World.cell?, hg, hsz]
theorem zero_ints (k : Nat) : (Builtin.zeroCells (Value.int .i64 0).cells k).toList = List.replicate k (.int .i64 0) := by
  refine List.eq_replicate_iff.2 ⟨by simp [Builtin.zeroCells, Value.cells], fun b hb => ?_⟩
  simp [Builtin.zeroCells, Value.cells] at hb
  obtain ⟨j, _, rfl⟩ := hb
  rw [Nat.mod_one]; rfl
theorem insert_list {zs : List Int} {i : Nat} (hi : i ≤ zs.length) (x : Int) (y : Value) : setAll (setAll (intVals zs ++ [y]) (i + 1) ((intVals zs).drop i)) i (intVals [x]) = intVals (zs.take i ++ x :: zs.drop i) := by
  have hl : (intVals zs).length = zs.length := intVals_length zs
  have hdl : ((intVals zs).drop i).length = zs.length - i := by rw [List.length_drop, hl]
  have hx1 : (intVals [x]).length = 1 := rfl
  refine List.ext_getElem? fun j => ?_
  rw [setAll_get _ _ _ _ (by rw [setAll_length, List.length_append, hl, hx1]; simp; omega), setAll_get _ _ _ _ (by rw [List.length_append, hdl, hl]; simp; omega), hdl, hx1]
  have hR : intVals (zs.take i ++ x :: zs.drop i) = (intVals zs).take i ++ Value.int .i64 x :: (intVals zs).drop i := by simp [intVals, List.map_take, List.map_drop]
  rw [hR]
  have htl : ((intVals zs).take i).length = i := by rw [List.length_take, hl]; omega
  by_cases h1 : i ≤ j ∧ j < i + 1
  · have e : j = i := by omega
    subst e
    rw [if_pos h1, List.getElem?_append_right (by omega), htl, Nat.sub_self]
    rfl
  · rw [if_neg h1]
    by_cases h2 : i + 1 ≤ j ∧ j < i + 1 + (zs.length - i)
    · rw [if_pos h2, List.getElem?_append_right (by omega), htl, show j - i = (j - (i + 1)) + 1 by omega, List.getElem?_cons_succ]
    · rw [if_neg h2]
      by_cases h3 : j < i
      · rw [List.getElem?_append_left (by omega), List.getElem?_append_left (by omega), List.getElem?_take_of_lt h3]
      · rw [List.getElem?_eq_none (by simp [hl]; omega), List.getElem?_eq_none (by simp [htl, hdl]; omega)]
set_option maxRecDepth 100000 in
set_option maxHeartbeats 2000000 in
/-- where a number is searched in no numbers -/
theorem search_none (ya : Option Addr) (c : Nat) (x : Int) (w : World) :
    Calls Try.prog 52 #[.slice ya 0 c, .int .i64 x] w fun e w' => e = .returned (.tuple #[.int .i64 0, .bool false]) ∧ Below w.heap.size w w' := by
  go_enter Try.func52, Try.ntmps52
  go_wp2
  go_loopw [7, 8] (fun s7 s8 wr => s7 = .int .i64 0 ∧ s8 = .int .i64 0 ∧ wr = w) (fun _ _ _ => 0)
  case atStart => exact ⟨rfl, rfl, rfl⟩
  case round =>
    obtain ⟨rfl, rfl, hw⟩ := hrel
    subst hw
    go_wp2
    go_ret2
    exact ⟨rfl, Below.refl _ _⟩
/-- where a number is searched in a row that rises -/
theorem search_int (ya : Option Addr) (n c : Nat) (zs : List Int) (x : Int) (w : World) (h : SlZ w ya n zs) (ha : Asc zs) (hn : n ≤ 8) :
    Calls Try.prog 52 #[.slice ya n c, .int .i64 x] w fun e w' => e = .returned (.tuple #[.int .i64 (zs.countP (fun z => decide (z < x)) : Nat), .bool (decide (x ∈ zs))]) ∧ Below w.heap.size w w' := by
  obtain ⟨rfl, hm, hc⟩ := h
  by_cases h0 : zs.length = 0
  · obtain rfl : zs = [] := List.eq_nil_of_length_eq_zero h0
    refine (search_none ya c x w).mono ?_
    rintro e w' ⟨rfl, hb⟩
    exact ⟨by simp, hb⟩
  · obtain ⟨b, off, rfl, hcz⟩ := hc (by omega)
    have L := Any.slices_BinarySearch_int lays25 b off zs.length c zs x w (Nat.le_refl _) (by omega) (fun j hj => by
      rw [hcz j hj]
      simp [List.getD_eq_getElem?_getD, List.getElem?_eq_getElem hj]) (by
      rw [List.take_length]
      exact ha.imp fun h => Int.le_of_lt h)
    refine Calls.mono L ?_
    rintro e w' ⟨rfl, q, rfl⟩
    refine ⟨?_, ⟨rfl, rfl, rfl, Nat.le_refl _, fun _ _ => rfl⟩⟩
    have hce : zs.contains x = decide (x ∈ zs) := by rw [Bool.eq_iff_iff]; simp
    rw [List.take_length, hce]
/-- a number is inserted into a row of the call's own -/
theorem insert_int (ya : Option Addr) (n c i vb : Nat) (zs : List Int) (x : Int) (w : World) (h : OwnZV w (.slice ya n c) zs) (hnl : zs.length = n) (hn : n ≤ 8) (hi : i ≤ n) (hx : (Lit.int .i64 x).wf = true) (hv : w.heap[vb]? = some (.cells #[.int .i64 x] 3 (0, 0))) (hne : (Value.slice ya n c).ownBlock ≠ some vb) :
    Calls Try.prog 53 #[.slice ya n c, .int .i64 (i : Int), .slice (some ⟨vb, 0, none⟩) 1 1] w fun e w' => ∃ ra rc, e = .returned (.slice (some ⟨ra, 0, none⟩) (n + 1) rc) ∧ OwnZV w' (.slice (some ⟨ra, 0, none⟩) (n + 1) rc) (zs.take i ++ x :: zs.drop i) ∧ (some ra = (Value.slice ya n c).ownBlock ∨ w.heap.size ≤ ra) ∧ w.grownBy w' (Value.slice ya n c).ownBlock := by
  obtain ⟨hwf, hrow⟩ := h
  rw [hnl] at hrow
  have hnw : ∀ z ∈ zs.take i ++ x :: zs.drop i, (Lit.int .i64 z).wf = true := fun z hz => by
    rcases List.mem_append.1 hz with e | e
    · exact hwf z (List.mem_of_mem_take e)
    · rcases List.mem_cons.1 e with e | e
      · rw [e]; exact hx
      · exact hwf z (List.mem_of_mem_drop e)
  have hnl2 : (zs.take i ++ x :: zs.drop i).length = n + 1 := by simp; omega
  have hivl : (intVals zs).length = n := by rw [intVals_length, hnl]
  have hvs : ∀ (j : Nat) (v : Value), (intVals [x])[j]? = some v → w.cell? ⟨vb, 0 + j, none⟩ = some v := fun j v hj => by
    match j, hj with
    | 0, hj => simp [intVals] at hj; subst hj; simp [World.cell?, hv]
  have h1v := intVals_oneCell [x]
  have h1c := intVals_oneCell zs
  have hvf : ∀ k, w.frozen? ⟨vb, k, none⟩ = false := fun k => by simp [World.frozen?, hv]
  have hfin : ∀ (w' : World) (ra rc : Nat), w'.ownsRow 0 3 1 (.slice (some ⟨ra, 0, none⟩) (n + 1) rc) (n + 1) (intVals (zs.take i ++ x :: zs.drop i)) → OwnZV w' (.slice (some ⟨ra, 0, none⟩) (n + 1) rc) (zs.take i ++ x :: zs.drop i) := fun w' ra rc h => ⟨hnw, by rw [hnl2]; exact h⟩
  have hnew : ∀ (cap : Nat) (cur : List Value), n + 1 ≤ cap → cap ≤ maxLen → cur.length = cap → cur.take (n + 1) = intVals (zs.take i ++ x :: zs.drop i) → ∀ w' : World, w'.os = w.os → w'.tape = w.tape → w'.output = w.output → w'.heap = w.heap.push (.cells cur.toArray 3 (0, 0)) → w'.ownsRow 0 3 1 (.slice (some ⟨w.heap.size, 0, none⟩) (n + 1) cap) (n + 1) (intVals (zs.take i ++ x :: zs.drop i)) ∧ w.grownBy w' (Value.slice ya n c).ownBlock := fun cap cur h1 h2 h3 h4 w' e1 e2 e3 e4 => by
    refine ⟨⟨by rw [intVals_length, hnl2, Nat.mul_one], .inr ⟨w.heap.size, cap, cur.toArray, rfl, Nat.zero_le _, by rw [e4]; simp, h1, h2, by simpa using h3, by simpa using h4⟩⟩, ⟨e1, e2, e3, by rw [e4]; simp, fun k hk _ => by rw [e4, Array.getElem?_push_lt hk]; simp [hk]⟩⟩
  have hcell : ∀ a, ya = some a → ∀ (j : Nat) (v : Value), (intVals zs)[j]? = some v → w.cell? (a.add j) = some v := fun a ha j v hj => by
    subst ha
    rcases hrow.2 with ⟨h', _⟩ | ⟨g', cap', cur, h', _⟩
    · cases h'
    · simp only [Value.slice.injEq, Option.some.injEq] at h'
      obtain ⟨rfl, _⟩ := h'
      exact hrow.cells rfl j v hj
  have hcap : n ≤ c ∧ c ≤ maxLen := by
    rcases hrow.2 with ⟨h', h0⟩ | ⟨g', cap', cur, h', _, _, h1, h2, _⟩
    · cases h'; exact ⟨Nat.le_refl _, Nat.zero_le _⟩
    · cases h'; exact ⟨h1, h2⟩
  have hmx : maxLen = 9223372036854775807 := rfl
  by_cases hroom : n + 1 ≤ c
  · obtain ⟨g, rfl⟩ : ∃ g, ya = some ⟨g, 0, none⟩ := by
      rcases hrow.2 with ⟨h', h0⟩ | ⟨g', cap', cur, h', _⟩
      · cases h'; omega
      · cases h'; exact ⟨_, rfl⟩
    obtain ⟨y, hr1, hyc, cur, hcur, hcs⟩ := row_more hrow (by omega)
    have hgv : vb ≠ g := fun e => hne (by rw [e]; rfl)
    have hsp : ∀ j, j < n + 1 → (w.cell? ⟨g, 0 + j, none⟩).isSome = true := fun j hj => by
      have : j < cur.size := by omega
      simp [World.cell?, hcur, this]
    have hfz : ∀ j, w.frozen? ⟨g, j, none⟩ = false := fun j => hrow.frozenAt j
    have hdr : w.drew.ownsRow 0 3 1 (.slice (some ⟨g, 0, none⟩) (n + 1) c) (n + 1) (intVals zs ++ [y]) := hr1
    by_cases hin : i < n
    · have L := Any2.slices_Insert_int_shift lays21 g 0 n c i vb 0 1 1 (intVals zs) (intVals [x]) w hin (by decide) hroom (by omega) hgv hivl rfl (fun j v hj => by have := hcell _ rfl j v hj; rwa [Addr.add_lit] at this) hsp (fun j _ => hfz _) hvs h1c h1v 3 3 1 cur.size (by simp [World.shape?, hv]) (by simp [World.shape?, hcur]) (by omega) (hvf _) (hvf _)
      refine Calls.mono L ?_
      rintro e w' ⟨rfl, rfl⟩
      obtain ⟨h1, g1⟩ := row_setCells ((intVals zs).drop i) w.drew (i + 1) _ hdr
      obtain ⟨h2, g2⟩ := row_setCells (intVals [x]) _ i _ h1
      rw [insert_list (by omega) x y] at h2
      simp only [Nat.zero_add] at *
      exact ⟨g, c, rfl, hfin _ _ _ h2, .inl rfl, ⟨g2.os.trans g1.os, g2.tape.trans g1.tape, g2.output.trans g1.output, Nat.le_trans g1.size g2.size, fun k hk hne => (g2.block k (Nat.lt_of_lt_of_le hk g1.size) hne).trans (g1.block k hk hne)⟩⟩
    · obtain rfl : i = n := by omega
      have L := Any2.slices_Insert_int_end_room lays21 g 0 i c vb 0 1 1 (intVals [x]) w (by decide) hroom (by omega) rfl (fun j hj => by have := hsp (i + j) (by omega); simpa using this) (fun j hj => hfz _) hvs h1v
      refine Calls.mono L ?_
      rintro e w' ⟨rfl, rfl⟩
      obtain ⟨h2, g2⟩ := row_setCells (intVals [x]) w i _ hr1
      have e := insert_list (zs := zs) (i := i) (by omega) x y
      rw [List.drop_eq_nil_of_le (by omega)] at e
      simp only [setAll] at e
      rw [show setAll (intVals zs ++ [y]) i (intVals [x]) = intVals (zs.take i ++ x :: zs.drop i) from e] at h2
      simp only [Nat.zero_add]
      exact ⟨g, c, rfl, hfin _ _ _ h2, .inl rfl, g2⟩
  · have hge := grownCap_ge w (n + 1) c 3
    have hle := grownCap_le_maxLen w (n + 1) c 3 (by omega)
    by_cases hin : i < n
    · obtain ⟨g, rfl⟩ : ∃ g, ya = some ⟨g, 0, none⟩ := by
        rcases hrow.2 with ⟨h', h0⟩ | ⟨g', cap', cur, h', _⟩
        · cases h'; omega
        · cases h'; exact ⟨_, rfl⟩
      have L := Any2.slices_Insert_int_grow lays21 g 0 n c i vb 0 1 1 (intVals zs) (intVals [x]) w hin (by decide) hcap.1 (by omega) (by omega) hivl rfl (fun j v hj => by have := hcell _ rfl j v hj; rwa [Addr.add_lit] at this) hvs h1c h1v
      refine Calls.mono L ?_
      rintro e w' ⟨rfl, hw'⟩
      clear L
      change w' = (((w.alloc (.cells (((intVals zs).take i).toArray ++ Builtin.zeroCells (Value.int .i64 0).cells (n + 1 - i) ++ Builtin.zeroCells (Value.int .i64 0).cells (grownCap w (n + 1) c 3 - (n + 1))) 3)).drew.setCells w.heap.size i (intVals [x])).drew).setCells w.heap.size (i + 1) ((intVals zs).drop i) at hw'
      change ∃ ra rc, Ending.returned (Value.slice (some ⟨w.heap.size, 0, none⟩) (n + 1) (grownCap w (n + 1) c 3)) = _ ∧ _
      generalize hG : grownCap w (n + 1) c 3 = G at *
      obtain ⟨W0, hW0⟩ : ∃ W0, (w.alloc (.cells (((intVals zs).take i).toArray ++ Builtin.zeroCells (Value.int .i64 0).cells (n + 1 - i) ++ Builtin.zeroCells (Value.int .i64 0).cells (G - (n + 1))) 3)) = W0 := ⟨_, rfl⟩
      have hzc := zero_ints
      have hR0 : W0.ownsRow 0 3 1 (.slice (some ⟨w.heap.size, 0, none⟩) (n + 1) G) (n + 1) ((intVals zs).take i ++ List.replicate (n + 1 - i) (.int .i64 0)) ∧ w.grownBy W0 (Value.slice (some ⟨g, 0, none⟩) n c).ownBlock := by
        rw [← hW0]
        refine ⟨⟨by simp [hivl]; omega, .inr ⟨w.heap.size, G, _, rfl, Nat.zero_le _, heap_alloc_new w _, hge, hle, ?_, ?_⟩⟩, ⟨rfl, rfl, rfl, by simp, fun k hk _ => heap_alloc_old w _ hk⟩⟩
        · have := congrArg List.length (hzc (n + 1 - i)); have := congrArg List.length (hzc (G - (n + 1)))
          simp [hivl] at *
          omega
        · simp only [Array.toList_append, hzc, Nat.mul_one]
          rw [List.take_append_of_le_length (by simp [hivl]; omega), List.take_of_length_le (by simp [hivl]; omega)]
      obtain ⟨h1, g1⟩ := row_setCells (intVals [x]) W0 i _ hR0.1
      obtain ⟨h2, g2⟩ := row_setCells ((intVals zs).drop i) _ (i + 1) _ h1
      have el : setAll (setAll ((intVals zs).take i ++ List.replicate (n + 1 - i) (.int .i64 0)) i (intVals [x])) (i + 1) ((intVals zs).drop i) = intVals (zs.take i ++ x :: zs.drop i) := by
        have hdl : ((intVals zs).drop i).length = n - i := by rw [List.length_drop, hivl]
        have hx1 : (intVals [x]).length = 1 := rfl
        have htl : ((intVals zs).take i).length = i := by rw [List.length_take, hivl]; omega
        have hll : ((intVals zs).take i ++ List.replicate (n + 1 - i) (Value.int .i64 0)).length = n + 1 := by rw [List.length_append, htl, List.length_replicate]; omega
        have hR : intVals (zs.take i ++ x :: zs.drop i) = (intVals zs).take i ++ Value.int .i64 x :: (intVals zs).drop i := by simp [intVals, List.map_take, List.map_drop]
        refine List.ext_getElem? fun j => ?_
        rw [setAll_get _ _ _ _ (by rw [setAll_length, hll, hdl]; omega), setAll_get _ _ _ _ (by rw [hll, hx1]; omega), hdl, hx1, hR]
        by_cases h2 : i + 1 ≤ j ∧ j < i + 1 + (n - i)
        · rw [if_pos h2, List.getElem?_append_right (by omega), htl, show j - i = (j - (i + 1)) + 1 by omega, List.getElem?_cons_succ]
        · rw [if_neg h2]
          by_cases h1 : i ≤ j ∧ j < i + 1
          · have e : j = i := by omega
            subst e
            rw [if_pos h1, List.getElem?_append_right (by omega), htl, Nat.sub_self]
            rfl
          · rw [if_neg h1]
            by_cases h3 : j < i
            · rw [List.getElem?_append_left (by omega), List.getElem?_append_left (by omega)]
            · rw [List.getElem?_eq_none (by omega), List.getElem?_eq_none (by simp [htl, hdl]; omega)]
      rw [el] at h2
      have hb2 : ∀ k, k < w.heap.size → some k ≠ some w.heap.size := fun k hk e => by have := Option.some.inj e; omega
      have hs1 := hR0.2.size
      have hs2 := g1.size
      have hs3 := g2.size
      rw [hW0, ← drew_setCells, ← drew_setCells, ← drew_setCells] at hw'
      subst hw'
      refine ⟨w.heap.size, G, rfl, hfin _ _ _ h2, .inr (Nat.le_refl _), ?_⟩
      exact ⟨g2.os.trans (g1.os.trans hR0.2.os), g2.tape.trans (g1.tape.trans hR0.2.tape), g2.output.trans (g1.output.trans hR0.2.output), (show w.heap.size ≤ ((W0.setCells w.heap.size i (intVals [x])).setCells w.heap.size (i + 1) ((intVals zs).drop i)).heap.size by omega), fun k hk hne => (g2.block k (by omega) (hb2 k hk)).trans ((g1.block k (by omega) (hb2 k hk)).trans (hR0.2.block k hk hne))⟩
    · obtain rfl : i = n := by omega
      have L := Any2.slices_Insert_int_end_grow lays21 ya i c vb 0 1 1 (intVals zs) (intVals [x]) w (by decide) hcap.1 (by omega) (by omega) hivl rfl (fun e => by
        subst e
        rcases hrow.2 with ⟨h', h0⟩ | ⟨g', cap', cur, h', _⟩
        · exact h0
        · cases h') hcell hvs h1v
      refine Calls.mono L ?_
      rintro e w' ⟨rfl, hw'⟩
      subst hw'
      have el : zs.take i ++ x :: zs.drop i = zs ++ [x] := by rw [List.take_of_length_le (by omega), List.drop_eq_nil_of_le (by omega)]
      have hzc := zero_ints
      refine ⟨w.heap.size, grownCap w (i + 1) c 3, rfl, hfin _ _ _ ?_, .inr (Nat.le_refl _), ⟨rfl, rfl, rfl, by simp, fun k hk _ => heap_alloc_old w.drew _ hk⟩⟩
      refine ⟨by rw [intVals_length, hnl2, Nat.mul_one], .inr ⟨w.heap.size, _, _, rfl, Nat.zero_le _, heap_alloc_new w.drew _, hge, hle, ?_, ?_⟩⟩
      · have hz := congrArg List.length (hzc (grownCap w (i + 1) c 3 - (i + 1)))
        rw [Array.length_toList, List.length_replicate] at hz
        have h1 : (intVals [x]).length = 1 := rfl
        simp only [Array.size_append, List.size_toArray, List.length_append, hivl, h1, Nat.mul_one]
        change _ + (Builtin.zeroCells (Value.int .i64 0).cells (grownCap w (i + 1) c 3 - (i + 1))).size = _
        rw [hz]
        omega
      · simp only [Array.toList_append, hzc, Nat.mul_one]
        rw [el, intVals_append]
        rw [List.take_append_of_le_length (by simp [hivl, intVals_length]), List.take_of_length_le (by simp [hivl, intVals_length])]
end Go.Proofs.Ytdeaiefhegjalaa.ins

namespace Go.Proofs.Ytdeaiefhegjalaa.lay
open Go Go.RowKit Go.Proofs.Ytdeaiefhegjalaa.base
/-- one cell of an element is written behind a change of what the element owns -/
theorem OwnG.cellW {α : Type} {ty : TypeId} {R : Rd α} {w W4 : World} {g n cap : Nat} {l : List α} {q : Parts} (h : OwnG ty R w (.slice (some ⟨g, 0, none⟩) n cap) l q) (i : Nat) (hi : i < l.length) (hW : ∀ b, b < w.heap.size → b ∉ (q[i]'(by have := h.len; omega)).2 → W4.heap[b]? = w.heap[b]?) (j : Nat) (hj : j < R.size) (u : Value) (x : α) (F' : List Nat) (hx : R.own W4 ((q[i]'(by have := h.len; omega)).1.set j u) x F') (hN : ∀ b ∈ F', b ∈ (q[i]'(by have := h.len; omega)).2 ∨ w.heap.size ≤ b) :
    OwnG ty R (W4.setCell ⟨g, i * R.size + j, none⟩ u) (.slice (some ⟨g, 0, none⟩) n cap) (l.set i x) (q.set i ((q[i]'(by have := h.len; omega)).1.set j u, F')) ∧ W4.grownBy (W4.setCell ⟨g, i * R.size + j, none⟩ u) (some g) := by
  have hn : n = l.length := h.nlen
  subst hn
  have hl := h.len
  have hqi : i < q.length := by omega
  have hgn : ∀ b ∈ blocksOf q, b ≠ g := fun b hb e => by
    have := (nodup_parts h.nodup).2.2 g (by simp [Value.ownBlock])
    exact this (e ▸ hb)
  have hbq : ∀ k (hk : k < q.length), ∀ b ∈ q[k].2, b ∈ blocksOf q := fun k hk b hb => List.mem_flatMap.2 ⟨_, List.getElem_mem _, hb⟩
  have hglt : g < w.heap.size := h.lts g List.mem_cons_self
  have hblt : ∀ b ∈ blocksOf q, b < w.heap.size := fun b hb => h.lts b (List.mem_cons_of_mem _ hb)
  have hr4 : W4.ownsRow 0 ty R.size (.slice (some ⟨g, 0, none⟩) l.length cap) l.length (cellsOf q) := by
    refine ⟨h.row.1, ?_⟩
    rcases h.row.2 with ⟨e, _⟩ | ⟨g', cap', cur, e, hb, hg, r⟩
    · cases e
    · cases e
      exact .inr ⟨g, cap, cur, rfl, hb, (hW g hglt fun e => hgn g (hbq i hqi g e) rfl).trans hg, r⟩
  have hr := hr4.stored (i * R.size + j) u
  have hp := h.parts
  have hpl := hp _ (List.getElem_mem hqi)
  have e0 : (cellsOf q).set (i * R.size + j) u = cellsOf (q.set i (q[i].1.set j u, F')) := by
    rw [← cellsOf_set hp i hqi (q[i].1.set j u) (by rw [List.length_set]; exact hpl) F']
    have hin : i * R.size + R.size ≤ (cellsOf q).length := by
      rw [cellsOf_length hp]
      have := Nat.mul_le_mul_right R.size (show i + 1 ≤ q.length from hqi)
      rw [Nat.add_mul] at this; omega
    refine List.ext_getElem? fun z => ?_
    rw [setAll_get _ _ _ _ (by rw [List.length_set, hpl]; exact hin), List.length_set, hpl]
    by_cases hz : i * R.size ≤ z ∧ z < i * R.size + R.size
    · rw [if_pos hz]
      obtain ⟨d, rfl⟩ : ∃ d, z = i * R.size + d := ⟨z - i * R.size, by omega⟩
      rw [Nat.add_sub_cancel_left]
      by_cases hd : d = j
      · subst hd
        rw [List.getElem?_set_self (by omega), List.getElem?_set_self (by omega)]
      · rw [List.getElem?_set_ne (by omega), List.getElem?_set_ne (by omega), cellsOf_get hp i hqi d (by omega)]
    · rw [if_neg hz, List.getElem?_set_ne (by omega)]
  rw [e0] at hr
  have hFg : ∀ b ∈ F', b ≠ g := fun b hb e => by
    rcases hN b hb with e2 | e2
    · exact hgn b (hbq i hqi b e2) e
    · omega
  have hdis : ∀ k (hk : k < q.length), k ≠ i → ∀ b ∈ q[k].2, b ∉ q[i].2 := fun j hj hne b hb hb2 => by
    have hnd := (nodup_parts h.nodup).2.1
    rcases Nat.lt_or_ge j i with hlt | hge
    · have e1 : blocksOf q = blocksOf (q.take i) ++ blocksOf (q.drop i) := by rw [← blocksOf_append, List.take_append_drop]
      rw [e1] at hnd
      refine (nodup_parts hnd).2.2 b (List.mem_flatMap.2 ⟨q[j], ?_, hb⟩) (List.mem_flatMap.2 ⟨q[i], ?_, hb2⟩)
      · rw [List.mem_take_iff_getElem]; exact ⟨j, by omega, rfl⟩
      · rw [List.mem_drop_iff_getElem]; exact ⟨0, by omega, by simp⟩
    · have hlt : i < j := by omega
      have e1 : blocksOf q = blocksOf (q.take j) ++ blocksOf (q.drop j) := by rw [← blocksOf_append, List.take_append_drop]
      rw [e1] at hnd
      refine (nodup_parts hnd).2.2 b (List.mem_flatMap.2 ⟨q[i], ?_, hb2⟩) (List.mem_flatMap.2 ⟨q[j], ?_, hb⟩)
      · rw [List.mem_take_iff_getElem]; exact ⟨i, by omega, rfl⟩
      · rw [List.mem_drop_iff_getElem]; exact ⟨0, by omega, by simp⟩
  exact ⟨h.turn i hi _ x _ hr.1 (R.ownAt hx fun k hk => hr.2.block k (R.ownLt hx k hk) fun e => hFg k hk (Option.some.inj e)) (fun k hk hne b hb => by
    have h1 := hblt b (hbq k (by omega) b hb)
    have h2 := hW b h1 (hdis k (by omega) hne b hb)
    refine Eq.trans (hr.2.block b ?_ fun e => hgn b (hbq k (by omega) b hb) (Option.some.inj e)) h2
    rcases Nat.lt_or_ge b W4.heap.size with h3 | h3
    · exact h3
    · rw [Array.getElem?_eq_none (by omega), Array.getElem?_eq_getElem h1] at h2
      cases h2) (fun b hb => (hN b hb).imp_right fun e hm => by
    have : b = g ∨ b ∈ blocksOf q := by simpa [Value.ownBlock] using hm
    rcases this with e2 | e2
    · omega
    · have := hblt b e2; omega), hr.2⟩
end Go.Proofs.Ytdeaiefhegjalaa.lay
namespace Go.Proofs.Ytdeaiefhegjalaa.cos
open Go Go.RowKit Go.Proofs.Ytdeaiefhegjalaa.base Go.Proofs.Ytdeaiefhegjalaa.pairs Go.Proofs.Ytdeaiefhegjalaa.ords Go.Proofs.Ytdeaiefhegjalaa.lay Go.Proofs.Ytdeaiefhegjalaa.wds Go.Proofs.Ytdeaiefhegjalaa.ins
set_option linter.unusedVariables false
set_option linter.unusedSimpArgs false

/-- the yes of the job at k as they lie, and the way back from a change of them -/
theorem InCo.yes {w : World} {X : Nat} {T : TypeId} {pre post : List Value} {gj jn jc : Nat} {la : Option Addr} {ln lc : Nat} {c : Co} {F : List Nat} (h : InCo w X T pre post (some ⟨gj, 0, none⟩) jn jc la ln lc c F) (k : Nat) (hk : k < c.2.2.2.1.length) (shard : Int) :
    ∃ ya yl yc, w.cell? ⟨gj, k * 4 + 3, none⟩ = some (.slice ya yl yc) ∧ (∀ i, w.frozen? ⟨gj, i, none⟩ = false) ∧ OwnZV w (.slice ya yl yc) c.2.2.2.1[k].2.2.2 ∧ (Value.slice ya yl yc).ownBlock ≠ some gj ∧ (∀ b ∈ (Value.slice ya yl yc).ownBlock.toList, b < w.heap.size) ∧
      ∀ (W4 : World) (ra : Option Addr) (rn rc : Nat), w.grownBy W4 (Value.slice ya yl yc).ownBlock → OwnZV W4 (.slice ra rn rc) (putI c.2.2.2.1[k].2.2.2 shard) → (∀ b ∈ (Value.slice ra rn rc).ownBlock.toList, b ∈ (Value.slice ya yl yc).ownBlock.toList ∨ w.heap.size ≤ b) →
        ∃ F', InCo (W4.setCell ⟨gj, k * 4 + 3, none⟩ (.slice ra rn rc)) X T pre post (some ⟨gj, 0, none⟩) jn jc la ln lc (yesC c k hk shard) F' ∧ lay.Frame (X :: F) w (W4.setCell ⟨gj, k * 4 + 3, none⟩ (.slice ra rn rc)) ∧ Fresh w F F' := by
  obtain ⟨hbx, hown, hXF⟩ := h
  obtain ⟨vx, vy, F1, F2, e, hwf, hj, hl, hFe, hnd⟩ := coord_own.1 hown
  simp only [List.cons.injEq, and_true, true_and] at e
  obtain ⟨rfl, rfl⟩ := e
  obtain ⟨vj, qj, e, hF1, hJ⟩ := hj
  simp only [List.cons.injEq, and_true] at e
  subst e
  have hl0 := hJ.len
  have hqk : k < qj.length := by omega
  have hu := hJ.each k hk
  have hcl := hJ.cells k hk
  obtain ⟨v1, v2, e, k1, k3, h1, h2, h3, h4⟩ := job_own.1 hu
  obtain ⟨ya, yl, yc, rfl⟩ : ∃ ya yl yc, v2 = .slice ya yl yc := by
    rcases h2.2.2 with ⟨e, _⟩ | ⟨g', c', cur, e, _⟩
    · exact ⟨_, _, _, e⟩
    · exact ⟨_, _, _, e⟩
  have d3 := hcl 3 (.slice ya yl yc) (by rw [e]; rfl)
  rw [show k * jobR.size + 3 = k * 4 + 3 from rfl] at d3
  have hbq : ∀ b ∈ qj[k].2, b ∈ blocksOf qj := fun b hb => List.mem_flatMap.2 ⟨_, List.getElem_mem _, hb⟩
  have hyF : ∀ b ∈ (Value.slice ya yl yc).ownBlock.toList, b ∈ qj[k].2 := fun b hb => by rw [h3]; exact List.mem_append.2 (.inr hb)
  have hgj1 : gj ∈ F1 := by rw [hF1]; exact List.mem_append.2 (.inl (by simp [Value.ownBlock]))
  have hgjF : gj ∈ F := by rw [hFe]; exact List.mem_append.2 (.inl hgj1)
  have hXj : gj ≠ X := fun e => hXF (e ▸ hgjF)
  have hqF1 : ∀ b ∈ blocksOf qj, b ∈ F1 := fun b hb => by rw [hF1]; exact List.mem_append.2 (.inr hb)
  have hF1F : ∀ b ∈ F1, b ∈ F := fun b hb => by rw [hFe]; exact List.mem_append.2 (.inl hb)
  have hgn : gj ∉ blocksOf qj := (nodup_parts hJ.nodup).2.2 gj (by simp [Value.ownBlock])
  have hlts : ∀ b ∈ gj :: blocksOf qj, b < w.heap.size := fun b hb => hJ.lts b hb
  refine ⟨ya, yl, yc, d3, fun i => hJ.frozen i, h2, fun e => hgn (hbq gj (hyF gj (by rw [e]; simp))), fun b hb => hlts b (List.mem_cons_of_mem _ (hbq b (hyF b hb))), fun W4 ra rn rc hg hyr hb => ?_⟩
  have hnr : ∀ b, b ∉ qj[k].2 → some b ≠ (Value.slice ya yl yc).ownBlock := fun b hb e => hb (hyF b (by rw [← e]; simp))
  have hoF : ∀ b ∈ v1.ownBlock.toList, b ∈ qj[k].2 := fun b hb => by rw [h3]; exact List.mem_append.2 (.inl hb)
  have hnk := h4
  rw [h3] at hnk
  have hoy := (nodup_parts hnk).2.2
  have hov : OwnV W4 0 v1 c.2.2.2.1[k].2.1 := h1.of_block fun b hb2 => hg.block b (hlts b (List.mem_cons_of_mem _ (hbq b (hoF b (by rw [hb2]; simp))))) (fun e => hoy b (by rw [hb2]; simp) (by rw [← e]; simp))
  have hFRl := intsR.ownNodup (ints_own.2 ⟨hyr, rfl⟩)
  obtain ⟨hJ5, hg5⟩ := hJ.cellW (W4 := W4) k hk (fun b hb2 hb3 => hg.block b hb2 (hnr b hb3)) 3 (by decide) (.slice ra rn rc) (c.2.2.2.1[k].1, c.2.2.2.1[k].2.1, c.2.2.2.1[k].2.2.1, putI c.2.2.2.1[k].2.2.2 shard) (v1.ownBlock.toList ++ (Value.slice ra rn rc).ownBlock.toList) (by
    rw [e]
    refine job_own.2 ⟨_, _, rfl, k1, k3, hov, hyr, rfl, nodup_mk (nodup_parts hnk).1 hFRl fun b hb1 hb2 => ?_⟩
    rcases hb b hb2 with e2 | e2
    · exact hoy b hb1 e2
    · have := hlts b (List.mem_cons_of_mem _ (hbq b (hoF b hb1))); omega) (fun b hb1 => by
    rcases List.mem_append.1 hb1 with e2 | e2
    · exact .inl (hoF b e2)
    · exact (hb b e2).imp_left (hyF b))
  rw [show k * jobR.size + 3 = k * 4 + 3 from rfl] at hJ5 hg5
  obtain ⟨q5, hq5⟩ : ∃ q5, qj.set k (qj[k].1.set 3 (.slice ra rn rc), v1.ownBlock.toList ++ (Value.slice ra rn rc).ownBlock.toList) = q5 := ⟨_, rfl⟩
  have hq5b : ∀ b ∈ blocksOf q5, b ∈ blocksOf qj ∨ w.heap.size ≤ b := fun b hb1 => by
    rw [← hq5] at hb1
    obtain ⟨p, hp, hb2⟩ := List.mem_flatMap.1 hb1
    rcases List.mem_or_eq_of_mem_set hp with e2 | e2
    · exact .inl (List.mem_flatMap.2 ⟨p, e2, hb2⟩)
    · rw [e2] at hb2
      rcases List.mem_append.1 hb2 with e3 | e3
      · exact .inl (hbq b (hoF b e3))
      · exact (hb b e3).imp_left fun e4 => hbq b (hyF b e4)
  rw [hq5] at hJ5
  obtain ⟨W5, hW5⟩ : ∃ W5, W4.setCell ⟨gj, k * 4 + 3, none⟩ (.slice ra rn rc) = W5 := ⟨_, rfl⟩
  rw [hW5] at hJ5 hg5 ⊢
  have hnd' := hnd
  rw [hFe] at hnd'
  have hjlb := (nodup_parts hnd').2.2
  have hsz4 := hg.size
  have hXr : some X ≠ (Value.slice ya yl yc).ownBlock := hnr X fun e => hXF (hF1F X (hqF1 X (hbq X e)))
  have hl5 : logR.own W5 [.slice la ln lc] c.2.2.2.2.1 F2 := logR.ownAt hl fun b hb1 => by
    have hlt := logR.ownLt hl b hb1
    refine (hg5.block b (by omega) fun e => hjlb gj hgj1 (Option.some.inj e ▸ hb1)).trans (hg.block b hlt (hnr b fun e => hjlb b (hqF1 b (hbq b e)) hb1))
  have hF5 : lay.Frame (X :: F) w W5 := (lay.Frame.of_grown (G := X :: F) hg (fun b e => .inl (List.mem_cons_of_mem _ (hF1F b (hqF1 b (hbq b (hyF b (by rw [e]; simp)))))))).grown hg5 (fun b e => by cases e; exact .inl (List.mem_cons_of_mem _ hgjF))
  have hFr : Fresh w F (gj :: blocksOf q5 ++ F2) := fun b hb1 => by
    rcases List.mem_append.1 hb1 with e2 | e2
    · rcases List.mem_cons.1 e2 with e3 | e3
      · rw [e3]; exact .inl hgjF
      · exact (hq5b b e3).imp_left fun e4 => hF1F b (hqF1 b e4)
    · exact .inl (by rw [hFe]; exact List.mem_append.2 (.inr e2))
  have hXlt := hbx.lt
  refine ⟨gj :: blocksOf q5 ++ F2, ⟨(hbx.grown hg hXr).grown hg5 (fun e => hXj (Option.some.inj e).symm), coord_own.2 ⟨_, _, gj :: blocksOf q5, F2, rfl, ⟨hwf.n, hwf.life, hwf.next, hwf.sure⟩, ⟨_, q5, rfl, by simp [Value.ownBlock], hJ5⟩, hl5, rfl, ?_⟩, fun e => ?_⟩, hF5, hFr⟩
  · refine nodup_mk (by simpa [Value.ownBlock] using hJ5.nodup) (nodup_parts hnd').2.1 fun b hb1 hb2 => ?_
    have hlt := logR.ownLt hl b hb2
    rcases List.mem_cons.1 hb1 with e3 | e3
    · exact hjlb gj hgj1 (e3 ▸ hb2)
    · rcases hq5b b e3 with e4 | e4
      · exact hjlb b (hqF1 b e4) hb2
      · omega
  · rcases hFr X e with e2 | e2
    · exact hXF e2
    · omega
theorem grow_on {w V w6 : World} {o : Obj} {row : Option Nat} (hV : w.alloc o = V) (h : V.grownBy w6 row) : w.grownBy w6 row := by
  subst hV
  exact ⟨h.os, h.tape, h.output, Nat.le_trans (by simp) h.size, fun k hk hne => (h.block k (by simp; omega) hne).trans (heap_alloc_old w _ hk)⟩
set_option maxRecDepth 100000 in
set_option maxHeartbeats 4000000 in
theorem i_addYes : AddsYes 33 := by
  intro X T pre post gj jn jc la ln lc c F k hk shard w h hsw hasc hy8
  obtain ⟨ya0, yl0, yc0, d30, fz0, hyv0, -, -, -⟩ := h.yes k hk shard
  have hSl := (ints_see.1 (intsR.ownSee (ints_own.2 ⟨hyv0, rfl⟩))).1.1
  have hl0 := hSl.1
  have HBS := Hid.mk' (search_int ya0 yl0 yc0 c.2.2.2.1[k].2.2.2 shard w hSl hasc (by omega))
  clear hSl fz0 hyv0 hl0
  by_cases hin : shard ∈ c.2.2.2.1[k].2.2.2
  · rw [decide_eq_true hin] at HBS
    have HE : Hid (yesC c k hk shard = c) := by
      show _ = _
      unfold yesC
      rw [show putI c.2.2.2.1[k].2.2.2 shard = c.2.2.2.1[k].2.2.2 from if_pos hin, List.set_getElem_self hk]
    have HPP : Hid (∀ wx, Below w.heap.size w wx → ∃ F', InCo wx X T pre post (some ⟨gj, 0, none⟩) jn jc la ln lc (yesC c k hk shard) F' ∧ lay.Frame (X :: F) w wx ∧ Fresh w F F') := fun wx hx => ⟨F, by rw [HE.out]; exact h.below hx, lay.Frame.of_below hx, Fresh.refl _ _⟩
    generalize List.countP (fun z => decide (z < shard)) c.2.2.2.1[k].2.2.2 = n at *
    clear hin h HE
    go_enter Try.func33, Try.ntmps33
    go_wp2_with fail
    refine HBS.out.mono ?_
    rintro e w1 ⟨rfl, hb1⟩
    have HP := Hid.mk' (HPP.out w1 hb1)
    clear HBS HPP
    go_wp2_with fail
    first | (refine bodyPost_end (v := .tuple #[]) ?_ rfl ⟨rfl, HP.out⟩) | (refine bodyPost_ret (v := .tuple #[]) ?_ rfl ⟨rfl, HP.out⟩)
    simp [results, Try.results33, go_sem]
  · rw [decide_eq_false hin] at HBS
    have hcp := List.countP_le_length (p := fun z => decide (z < shard)) (l := c.2.2.2.1[k].2.2.2)
    have HPUT := Hid.mk' (putI_count hasc hin)
    generalize List.countP (fun z => decide (z < shard)) c.2.2.2.1[k].2.2.2 = n at *
    clear hin
    go_enter Try.func33, Try.ntmps33
    go_wp2_with fail
    refine HBS.out.mono ?_
    rintro e w1 ⟨rfl, hb1⟩
    clear HBS d30
    have hI := h.below hb1
    have HFR : Hid (lay.Frame (X :: F) w w1) := lay.Frame.of_below hb1
    obtain ⟨ya, yl, yc, d3, fz, hyv, hyg, hylt, back⟩ := hI.yes k hk shard
    obtain ⟨V, hV⟩ : ∃ V, w1.alloc (.cells #[.int .i64 shard] 3) = V := ⟨_, rfl⟩
    have hbv : Below w1.heap.size w1 V := by rw [← hV]; exact below_make
    have hyV : OwnZV V (.slice ya yl yc) c.2.2.2.1[k].2.2.2 := (ints_own.1 (intsR.ownBelow (ints_own.2 ⟨hyv, rfl⟩) hbv)).1
    have hyl : c.2.2.2.1[k].2.2.2.length = yl := (ints_see.1 (intsR.ownSee (ints_own.2 ⟨hyv, rfl⟩))).1.1.1
    have hvn : V.heap[w1.heap.size]? = some (.cells #[.int .i64 shard] 3 (0, 0)) := by rw [← hV]; exact heap_alloc_new _ _
    have HINS := Hid.mk' (insert_int ya yl yc n w1.heap.size c.2.2.2.1[k].2.2.2 shard V hyV hyl (by omega) (by omega) hsw hvn (fun e => by have := hylt w1.heap.size (by rw [e]; simp); omega))
    have dV := (hbv.cell (p := ⟨gj, k * 4 + 3, none⟩) (World.block_lt_of_cell? _ _ d3)).trans d3
    have fV : V.frozen? ⟨gj, k * 4 + 3, none⟩ = false := (World.frozen?_of_block (hbv.block gj (World.block_lt_of_cell? _ _ d3))).trans (fz _)
    have HV := Hid.mk' hV
    have HVS : Hid (w1.heap.size ≤ V.heap.size) := hbv.size
    clear hV hvn hyV hyv hylt hI hbv h hyl fz hcp hb1 hasc hy8
    go_wp2_with fail
    rw [HV.out]
    refine HINS.out.mono ?_
    rintro e w6 ⟨ra, rc, rfl, hO6, hra, hg6⟩
    have d6 : w6.cell? ⟨gj, k * 4 + 3, none⟩ = some (.slice ya yl yc) := (World.cell?_of_block (hg6.block gj (World.block_lt_of_cell? _ _ dV) (fun e => hyg e.symm))).trans dV
    have f6 : w6.frozen? ⟨gj, k * 4 + 3, none⟩ = false := (World.frozen?_of_block (hg6.block gj (World.block_lt_of_cell? _ _ dV) (fun e => hyg e.symm))).trans fV
    have hgD : w1.grownBy w6 (Value.slice ya yl yc).ownBlock := grow_on HV.out hg6
    obtain ⟨F', hI', hF', hfr'⟩ := back w6 _ _ _ hgD (by rw [HPUT.out]; exact hO6) (fun b hb => by
      have e : b = ra := by simpa [Value.ownBlock] using hb
      rw [e]
      rcases hra with e2 | e2
      · exact .inl (by rw [← e2]; simp)
      · exact .inr (by have := HVS.out; omega))
    obtain ⟨U, hU⟩ : ∃ U, w6.setCell ⟨gj, k * 4 + 3, none⟩ (.slice (some ⟨ra, 0, none⟩) (yl + 1) rc) = U := ⟨_, rfl⟩
    rw [hU] at hI' hF'
    have HP : Hid (∃ F', InCo U X T pre post (some ⟨gj, 0, none⟩) jn jc la ln lc (yesC c k hk shard) F' ∧ lay.Frame (X :: F) w U ∧ Fresh w F F') := ⟨F', hI', HFR.out.trans hF' (Fresh.refl _ _), (Fresh.refl w F).trans hfr' HFR.out.size⟩
    have HU := Hid.mk' hU
    clear hI' hF' hfr' hU hO6 hgD hg6 hra back HINS d3 dV fV
    go_wp2_with fail
    rw [HU.out]
    first | (refine bodyPost_end (v := .tuple #[]) ?_ rfl ⟨rfl, HP.out⟩) | (refine bodyPost_ret (v := .tuple #[]) ?_ rfl ⟨rfl, HP.out⟩)
    simp [results, Try.results33, go_sem]
end Go.Proofs.Ytdeaiefhegjalaa.cos

namespace Go.Proofs.Ytdeaiefhegjalaa.cos
open Go Go.RowKit Go.Proofs.Ytdeaiefhegjalaa.base Go.Proofs.Ytdeaiefhegjalaa.pairs Go.Proofs.Ytdeaiefhegjalaa.ords Go.Proofs.Ytdeaiefhegjalaa.lay Go.Proofs.Ytdeaiefhegjalaa.wds
set_option linter.unusedVariables false
set_option linter.unusedSimpArgs false

set_option maxRecDepth 100000 in
set_option maxHeartbeats 4000000 in
theorem impl_vote (HAY : AddsYes 33) (ja : Option Addr) (jn jc : Nat) (la : Option Addr) (ln lc : Nat) (c : Co) (shard tx : Int) (yes : Bool) (w : World) (h : SeeCo w ja jn jc la ln lc c) (hbd : BoundCo c) (hsw : (Lit.int .i64 shard).wf = true) (htw : (Lit.int .i64 tx).wf = true) :
    Calls Try.prog 6 #[coV c.1 c.2.1 c.2.2.1 c.2.2.2.2.2 ja jn jc la ln lc, .int .i64 shard, .int .i64 tx, .bool yes] w (RetR coordR w (voteR c shard tx yes)) := by
  have hwf := h.wf
  have hll := h.log.1
  have hl8 := hbd.log
  obtain ⟨W, hW⟩ : ∃ W, (w.alloc (.cells #[.int .i64 c.1, .int .i64 c.2.1, .int .i64 c.2.2.1, .slice ja jn jc, .slice la ln lc, .int .i64 c.2.2.2.2.2] 27)).alloc (.cells #[.int .i64 0, .int .i64 0, .int .i64 0, .slice none 0 0, .slice none 0 0, .int .i64 0] 27) = W := ⟨_, rfl⟩
  have hB : Below w.heap.size w W := by rw [← hW]; exact ((Below.refl _ _).alloc (Nat.le_refl _) _).alloc (by simp) _
  have hA : BoxIn w.heap.size 27 [] [.int .i64 c.1, .int .i64 c.2.1, .int .i64 c.2.2.1, .slice ja jn jc, .slice la ln lc, .int .i64 c.2.2.2.2.2] [] W := by rw [← hW]; exact (boxIn_new w _ _).below below_make
  have hR : BoxIn (w.heap.size + 1) 27 [] [.int .i64 0, .int .i64 0, .int .i64 0, .slice none 0 0, .slice none 0 0, .int .i64 0] [] W := by
    rw [← hW]
    have := boxIn_new (w.alloc (.cells #[.int .i64 c.1, .int .i64 c.2.1, .int .i64 c.2.2.1, .slice ja jn jc, .slice la ln lc, .int .i64 c.2.2.2.2.2] 27)) [.int .i64 0, .int .i64 0, .int .i64 0, .slice none 0 0, .slice none 0 0, .int .i64 0] 27
    rwa [show (w.alloc (.cells #[.int .i64 c.1, .int .i64 c.2.1, .int .i64 c.2.2.1, .slice ja jn jc, .slice la ln lc, .int .i64 c.2.2.2.2.2] 27)).heap.size = w.heap.size + 1 by simp] at this
  have hRl := hR.lt
  have HOC := Hid.mk' (i_ownCoord ja jn jc la ln lc c W (h.below hB) hbd)
  have HCK := Hid.mk' (fun wx (hx : Below w.heap.size w wx) => impl_coordOk ja jn jc la ln lc c wx (h.below hx) hbd.fits)
  have HW := Hid.mk' hW
  obtain ⟨a0, a1, a2, a3, a4, a5⟩ := cells6 hA
  rw [← hW] at a0 a1 a2 a3 a4 a5
  clear hW h
  go_enter Try.func6, Try.ntmps6
  go_wp2_with fail
  rw [HW.out]
  refine HOC.out.mono ?_
  rintro e w1 ⟨vs, F, rfl, hO, hF, hb1⟩
  obtain ⟨xja, xjn, xjc, xla, xln, xlc, rfl⟩ := coord_shape hO
  have hB1 := hB.trans (hb1.mono hB.size)
  obtain ⟨V, hV⟩ : ∃ V, w1.alloc (.cells #[.int .i64 c.1, .int .i64 c.2.1, .int .i64 c.2.2.1, .slice xja xjn xjc, .slice xla xln xlc, .int .i64 c.2.2.2.2.2] 27) = V := ⟨_, rfl⟩
  have hbv : Below w1.heap.size w1 V := by rw [← hV]; exact below_make
  have hBV := hB1.trans (hbv.mono hB1.size)
  have hX := inR_new (T := 27) hO
  rw [hV] at hX
  have hRV := (hR.below hb1).below hbv
  have hAV := (hA.below hb1).below hbv
  have hw1 := hb1.size
  have HOK := Hid.mk' (HCK.out V hBV)
  have HV := Hid.mk' hV
  have HA := Hid.mk' hAV
  clear a0 a1 a2 a3 a4 a5 HOC HCK hO hV
  obtain ⟨a0, a1, a2, a3, a4, a5⟩ := cells6 hAV
  rw [← HV.out] at a0 a1 a2 a3 a4 a5
  clear hAV
  cases hok : coordOk c
  · rw [hok] at HOK
    have HE : Hid (voteR c shard tx yes = c) := by show _ = _; unfold voteR; rw [if_neg (by rw [hok]; decide)]
    clear hok HAY
    go_wp2_with fail
    rw [HV.out]
    refine HOK.out.mono ?_
    rintro e w2 ⟨rfl, hb2⟩
    clear a0 a1 a2 a3 a4 a5 HOK
    have hR2 := hRV.below hb2
    have hX2 := hX.below hb2
    have hB2 := hBV.trans (hb2.mono hBV.size)
    have hXlt := hX2.lt
    obtain ⟨q0, q1, q2, q3, q4, q5⟩ := cells6 hX2.box
    obtain ⟨z0, z1, z2, z3, z4, z5⟩ := cells6 hR2
    have f0 := hR2.fz 0
    have f1 := hR2.fz 1
    have f2 := hR2.fz 2
    have f3 := hR2.fz 3
    have f4 := hR2.fz 4
    have f5 := hR2.fz 5
    have hS := hR2.whole [.int .i64 c.1, .int .i64 c.2.1, .int .i64 c.2.2.1, .slice xja xjn xjc, .slice xla xln xlc, .int .i64 c.2.2.2.2.2] rfl
    obtain ⟨y0, y1, y2, y3, y4, y5⟩ := cells6 hS.1
    simp only [putAll, Nat.zero_add, Nat.reduceAdd] at y0 y1 y2 y3 y4 y5
    have hO2 := coordR.ownGrown hX2.own hS.2 (fun b hb e => by have := hF b hb; cases e; omega)
    have hBz := hB2.grown hS.2 hB2.size (fun j e => by cases e; omega)
    have hFN : ∀ b ∈ F, w.heap.size ≤ b := fun b hb => by have := hF b hb; have := hB.size; omega
    have HRET := Hid.mk' (show RetR coordR w (voteR c shard tx yes) (.returned (.agg #[.int .i64 c.1, .int .i64 c.2.1, .int .i64 c.2.2.1, .slice xja xjn xjc, .slice xla xln xlc, .int .i64 c.2.2.2.2.2])) _ from by rw [HE.out]; exact ⟨_, _, rfl, hO2, hFN, hBz⟩)
    clear hO2 hS hBz hFN
    go_wp2_with fail
    refine bodyPost_ret (v := .agg #[.int .i64 c.1, .int .i64 c.2.1, .int .i64 c.2.2.1, .slice xja xjn xjc, .slice xla xln xlc, .int .i64 c.2.2.2.2.2]) ?_ rfl HRET.out
    simp [results, Try.results6, go_sem, y0, y1, y2, y3, y4, y5]
  rw [hok] at HOK
  have hRt := coordOk_iff.1 hok
  have hBeq : voteR c shard tx yes = voteS c shard tx yes := by unfold voteR; rw [if_pos hok]
  clear hok
  have HLL := Hid.mk' hll
  clear hll
  by_cases hfull : 1000 ≤ ln
  · have HE : Hid (voteR c shard tx yes = c) := by
      show _ = _
      rw [hBeq]
      refine voteS_none ?_
      cases e : votes c shard tx with
      | none => rfl
      | some k => obtain ⟨_, _, _, h1, _⟩ := votes_some e; have := HLL.out; omega
    have hfi : ¬ (ln : Int) < 1000 := by omega
    have hfi2 : (1000 : Int) ≤ (ln : Int) := by omega
    clear hBeq hRt HAY
    go_wp2_with fail
    rw [HV.out]
    refine HOK.out.mono ?_
    rintro e w2 ⟨rfl, hb2⟩
    clear a0 a1 a2 a3 a4 a5 HOK
    have a4 := ((HA.out.below hb2).cell 4 _ rfl)
    simp only [List.length_nil, Nat.zero_add] at a4
    have hR2 := hRV.below hb2
    have hX2 := hX.below hb2
    have hB2 := hBV.trans (hb2.mono hBV.size)
    have hXlt := hX2.lt
    obtain ⟨q0, q1, q2, q3, q4, q5⟩ := cells6 hX2.box
    obtain ⟨z0, z1, z2, z3, z4, z5⟩ := cells6 hR2
    have f0 := hR2.fz 0
    have f1 := hR2.fz 1
    have f2 := hR2.fz 2
    have f3 := hR2.fz 3
    have f4 := hR2.fz 4
    have f5 := hR2.fz 5
    have hS := hR2.whole [.int .i64 c.1, .int .i64 c.2.1, .int .i64 c.2.2.1, .slice xja xjn xjc, .slice xla xln xlc, .int .i64 c.2.2.2.2.2] rfl
    obtain ⟨y0, y1, y2, y3, y4, y5⟩ := cells6 hS.1
    simp only [putAll, Nat.zero_add, Nat.reduceAdd] at y0 y1 y2 y3 y4 y5
    have hO2 := coordR.ownGrown hX2.own hS.2 (fun b hb e => by have := hF b hb; cases e; omega)
    have hBz := hB2.grown hS.2 hB2.size (fun j e => by cases e; omega)
    have hFN : ∀ b ∈ F, w.heap.size ≤ b := fun b hb => by have := hF b hb; have := hB.size; omega
    have HRET := Hid.mk' (show RetR coordR w (voteR c shard tx yes) (.returned (.agg #[.int .i64 c.1, .int .i64 c.2.1, .int .i64 c.2.2.1, .slice xja xjn xjc, .slice xla xln xlc, .int .i64 c.2.2.2.2.2])) _ from by rw [HE.out]; exact ⟨_, _, rfl, hO2, hFN, hBz⟩)
    clear hO2 hS hBz hFN
    go_wp2_with fail
    refine bodyPost_ret (v := .agg #[.int .i64 c.1, .int .i64 c.2.1, .int .i64 c.2.2.1, .slice xja xjn xjc, .slice xla xln xlc, .int .i64 c.2.2.2.2.2]) ?_ rfl HRET.out
    simp [results, Try.results6, go_sem, y0, y1, y2, y3, y4, y5]
  have hfi : (ln : Int) < 1000 := by omega
  have hfi2 : ¬ (1000 : Int) ≤ (ln : Int) := by omega
  have hxj : ∃ gj, xja = some ⟨gj, 0, none⟩ ∨ c.2.2.2.1 = [] := by
    obtain ⟨vx, vy, F1, F2, e, hwf, hj, hl, hFe, hnd⟩ := coord_own.1 hX.own
    simp only [List.cons.injEq, and_true, true_and] at e
    obtain ⟨rfl, rfl⟩ := e
    obtain ⟨vj, qj, e, hF1, hJ⟩ := hj
    simp only [List.cons.injEq, and_true] at e
    subst e
    rcases hJ.shape with ⟨_, e, _⟩ | ⟨g, cap, e, _⟩
    · exact ⟨0, .inr e⟩
    · cases e; exact ⟨g, .inl rfl⟩
  have hjs : ∀ wx, Below V.heap.size V wx → SlG jobR wx xja xjn c.2.2.2.1 := fun wx hx => by
    obtain ⟨vx, vy, F1, F2, e, hwf, hj, hl, hFe, hnd⟩ := coord_own.1 (hX.below hx).own
    simp only [List.cons.injEq, and_true, true_and] at e
    obtain ⟨rfl, rfl⟩ := e
    obtain ⟨vj, qj, e, hF1, hJ⟩ := hj
    simp only [List.cons.injEq, and_true] at e
    subst e
    exact hJ.sl
  have HXJ := Hid.mk' hxj
  have HJS := Hid.mk' hjs
  have HBQ := Hid.mk' hBeq
  have HRT := Hid.mk' hRt
  have hjl := hbd.jobs
  clear hxj hjs hBeq hRt hfull
  go_wp2_with fail
  rw [HV.out]
  refine HOK.out.mono ?_
  rintro e w2 ⟨rfl, hb2⟩
  clear a0 a1 a2 a3 a4 a5 HOK
  have a4 := ((HA.out.below hb2).cell 4 _ rfl)
  simp only [List.length_nil, Nat.zero_add] at a4
  have hX2 := hX.below hb2
  have x3 := hX2.box.cell 3 _ rfl
  simp only [List.length_nil, Nat.zero_add] at x3
  have hjn8 : xjn ≤ 1099511627776 := by have := (HJS.out w2 hb2).1; omega
  have HASK := Hid.mk' (i_asking w1.heap.size xja xjn xjc c.2.2.2.1 tx w2 x3 (HJS.out w2 hb2) hjn8)
  clear hX2 x3 hjl
  go_wp2_with fail
  refine HASK.out.mono ?_
  rintro e w3 ⟨hw3, hcase⟩
  replace hw3 := hw3.symm
  subst hw3
  clear HASK
  rcases hcase with ⟨hno, rfl⟩ | ⟨k, b, off, hat, hk, hxe, rfl⟩
  · have HE : Hid (voteR c shard tx yes = c) := by
      show _ = _
      rw [HBQ.out]
      refine voteS_none ?_
      rw [askAt_votes HRT.out, hno]
    clear hno HAY
    have hR2 := hRV.below hb2
    have hX2 := hX.below hb2
    have hB2 := hBV.trans (hb2.mono hBV.size)
    have hXlt := hX2.lt
    obtain ⟨q0, q1, q2, q3, q4, q5⟩ := cells6 hX2.box
    obtain ⟨z0, z1, z2, z3, z4, z5⟩ := cells6 hR2
    have f0 := hR2.fz 0
    have f1 := hR2.fz 1
    have f2 := hR2.fz 2
    have f3 := hR2.fz 3
    have f4 := hR2.fz 4
    have f5 := hR2.fz 5
    have hS := hR2.whole [.int .i64 c.1, .int .i64 c.2.1, .int .i64 c.2.2.1, .slice xja xjn xjc, .slice xla xln xlc, .int .i64 c.2.2.2.2.2] rfl
    obtain ⟨y0, y1, y2, y3, y4, y5⟩ := cells6 hS.1
    simp only [putAll, Nat.zero_add, Nat.reduceAdd] at y0 y1 y2 y3 y4 y5
    have hO2 := coordR.ownGrown hX2.own hS.2 (fun b hb e => by have := hF b hb; cases e; omega)
    have hBz := hB2.grown hS.2 hB2.size (fun j e => by cases e; omega)
    have hFN : ∀ b ∈ F, w.heap.size ≤ b := fun b hb => by have := hF b hb; have := hB.size; omega
    have HRET := Hid.mk' (show RetR coordR w (voteR c shard tx yes) (.returned (.agg #[.int .i64 c.1, .int .i64 c.2.1, .int .i64 c.2.2.1, .slice xja xjn xjc, .slice xla xln xlc, .int .i64 c.2.2.2.2.2])) _ from by rw [HE.out]; exact ⟨_, _, rfl, hO2, hFN, hBz⟩)
    clear hO2 hS hBz hFN
    go_wp2_with fail
    refine bodyPost_ret (v := .agg #[.int .i64 c.1, .int .i64 c.2.1, .int .i64 c.2.2.1, .slice xja xjn xjc, .slice xla xln xlc, .int .i64 c.2.2.2.2.2]) ?_ rfl HRET.out
    simp [results, Try.results6, go_sem, y0, y1, y2, y3, y4, y5]
  · obtain ⟨gj, hgj⟩ := HXJ.out
    have hgj : xja = some ⟨gj, 0, none⟩ := by
      rcases hgj with e | e
      · exact e
      · rw [e] at hk; cases hk
    rw [hgj] at hxe
    simp only [Option.some.injEq, Addr.mk.injEq, and_true] at hxe
    obtain ⟨rfl, rfl⟩ := hxe
    subst hgj
    have hX2 := hX.below hb2
    have hvt : votes c shard tx = if shard ∈ shardsOf c.1 c.2.2.2.1[k].2.1 then some k else none := by
      rw [askAt_votes HRT.out, hat]
      simp only [List.getElem?_eq_getElem hk]
      have := HLL.out
      by_cases hin : shard ∈ shardsOf c.1 c.2.2.2.1[k].2.1
      · rw [if_pos ⟨by omega, hin⟩, if_pos hin]
      · rw [if_neg (fun e => hin e.2), if_neg hin]
    have HE : Hid (voteR c shard tx yes = heardC c k hk shard yes) := by
      show _ = _
      rw [HBQ.out]
      unfold heardC
      by_cases hin : shard ∈ shardsOf c.1 c.2.2.2.1[k].2.1
      · rw [if_pos hin] at hvt ⊢
        exact voteS_eq hvt hk
      · rw [if_neg hin] at hvt ⊢
        exact voteS_none hvt
    have hfine := HRT.out.jobs _ (List.getElem_mem hk)
    have HHE := Hid.mk' (i_hear HAY w1.heap.size 27 [] [] gj xjn xjc xla xln xlc c F k hk shard yes w2 ⟨hX2.box, hX2.own, hX2.out⟩ hbd.log hsw (hbd.fits.2.2 _ (List.getElem_mem hk)).2 hfine.ops (yes_len HRT.out.n hfine.yes))
    simp only [List.length_nil, Nat.zero_add] at HHE
    simp only [Nat.zero_add]
    generalize heardC c k hk shard yes = R at *
    have hR2 := hRV.below hb2
    have hB2 := hBV.trans (hb2.mono hBV.size)
    have hXlt := hX2.lt
    clear hvt hat HAY hfine
    go_wp2_with fail
    refine HHE.out.mono ?_
    rintro e w3 ⟨rfl, yja, yjn, yjc, yla, yln, ylc, F3, hI3, hf3, hfr3⟩
    have hR3 := hR2.frame hf3 (fun e => by
      rcases List.mem_cons.1 e with e | e
      · omega
      · have := hF _ e; omega)
    have hb1s := hB1.size
    have hF3 : ∀ b ∈ F3, W.heap.size ≤ b := fun b hb => by
      have h2 := hb2.size
      have h3 := hbv.size
      rcases hfr3 b hb with e | e
      · exact hF b e
      · omega
    have hB3 : Below w.heap.size w w3 := hB2.trans (hf3.bel hB2.size fun b hb => by
      have := hB.size
      rcases List.mem_cons.1 hb with e | e
      · omega
      · have := hF b e; omega)
    clear HHE
    obtain ⟨q0, q1, q2, q3, q4, q5⟩ := cells6 hI3.box
    obtain ⟨z0, z1, z2, z3, z4, z5⟩ := cells6 hR3
    have f0 := hR3.fz 0
    have f1 := hR3.fz 1
    have f2 := hR3.fz 2
    have f3 := hR3.fz 3
    have f4 := hR3.fz 4
    have f5 := hR3.fz 5
    have hS := hR3.whole [.int .i64 R.1, .int .i64 R.2.1, .int .i64 R.2.2.1, .slice yja yjn yjc, .slice yla yln ylc, .int .i64 R.2.2.2.2.2] rfl
    obtain ⟨y0, y1, y2, y3, y4, y5⟩ := cells6 hS.1
    simp only [putAll, Nat.zero_add, Nat.reduceAdd] at y0 y1 y2 y3 y4 y5
    have hO2 := coordR.ownGrown hI3.own hS.2 (fun b hb e => by have := hF3 b hb; cases e; omega)
    have hBz := hB3.grown hS.2 hB3.size (fun j e => by cases e; omega)
    have hFN : ∀ b ∈ _, w.heap.size ≤ b := fun b hb => by have := hF3 b hb; have := hB.size; omega
    have HRET := Hid.mk' (show RetR coordR w (voteR c shard tx yes) (.returned (.agg #[.int .i64 R.1, .int .i64 R.2.1, .int .i64 R.2.2.1, .slice yja yjn yjc, .slice yla yln ylc, .int .i64 R.2.2.2.2.2])) _ from by rw [HE.out]; exact ⟨_, _, rfl, hO2, hFN, hBz⟩)
    clear hO2 hS hBz hFN
    go_wp2_with fail
    refine bodyPost_ret (v := .agg #[.int .i64 R.1, .int .i64 R.2.1, .int .i64 R.2.2.1, .slice yja yjn yjc, .slice yla yln ylc, .int .i64 R.2.2.2.2.2]) ?_ rfl HRET.out
    simp [results, Try.results6, go_sem, y0, y1, y2, y3, y4, y5]
end Go.Proofs.Ytdeaiefhegjalaa.cos
