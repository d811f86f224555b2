/- The laws' helpers for records: alike, marked, held. What the exact law of ReadRecs keeps from step to step: the bytes that were handed in, the answer's records and the specification's. Codes that are too long. The cursor from which the laws draw: what each call does to it. What the draws of the first chapter's laws hand back. -/
import Derived.Test.YtooiinicnkhlbaaDoorBund8as
import Derived.Test.YtooiinicnkhlbaaDoorBund8ax
import Derived.Test.YtooiinicnkhlbaaDoorBund8at
import Derived.Test.YtooiinicnkhlbaaDoorBund8aa
import Derived.Test.YtooiinicnkhlbaaDoorRows
import Derived.Deep.RegionWith
namespace Go.Proofs.YtooiinicnkhlbaaDoor.recs
open Go Go.RowKit Go.Proofs.YtooiinicnkhlbaaDoor.base Go.Proofs.YtooiinicnkhlbaaDoor.pairs Go.Proofs.YtooiinicnkhlbaaDoor.ords Go.Proofs.YtooiinicnkhlbaaDoor.helps
set_option linter.unusedVariables false
set_option linter.unusedSimpArgs false

set_option maxRecDepth 100000 in
set_option maxHeartbeats 2000000 in
theorem eqRecsT (a a2 : Option Addr) (len cap cap2 : Nat) (l : List Rc) (w : World) (h : SlR w a len l) (h2 : SlR w a2 len l) :
    Calls Tryd.prog 35 #[.slice a len cap, .slice a2 len cap2] w fun e w' => e = .returned (.bool true) ∧ Below w.heap.size w w' := by
  obtain ⟨hl, hm, hsm, hc⟩ := id h
  obtain ⟨_, _, _, hc2⟩ := id h2
  subst hl
  unfold maxLen at hm
  have hb : ((l.length : Int) == (l.length : Int)) = true := by simp
  go_enter Tryd.func35, Tryd.ntmps35
  go_wp2_with fail
  go_loopw [5] (fun i wr => ∃ k : Nat, k ≤ l.length ∧ i = .int .i64 k ∧ Below w.heap.size w wr) (fun i _ => l.length - (intOf i).toNat)
  case atStart => exact ⟨0, Nat.zero_le _, rfl, Below.refl _ _⟩
  case round =>
    obtain ⟨k, hk, rfl, hB⟩ := hrel
    by_cases hlt : k < l.length
    · obtain ⟨b, off, ha, hcl⟩ := hc (by omega)
      obtain ⟨b2, off2, ha2, hcl2⟩ := hc2 (by omega)
      subst ha ha2
      have hki : (k : Int) < (l.length : Int) := by omega
      have i1 := h.at k hlt
      have i2 := h2.at k hlt
      have hb1 : b < w.heap.size := World.block_lt_of_cell? w _ i1.1
      have hb2 : b2 < w.heap.size := World.block_lt_of_cell? w _ i2.1
      have hbs := hB.size
      obtain ⟨c1, c2, pa, pl, pc, c3, hS1, _⟩ := i1.below hB
      obtain ⟨c4, c5, qa, ql, qc, c6, hS2, _⟩ := i2.below hB
      have o1 := last.On.cell (B := wr.heap.size) c1 (by omega)
      have o2 := last.On.cell (B := wr.heap.size) c2 (by omega)
      have o3 := last.On.cell (B := wr.heap.size) c3 (by omega)
      have o4 := last.On.cell (B := wr.heap.size) c4 (by omega)
      have o5 := last.On.cell (B := wr.heap.size) c5 (by omega)
      have o6 := last.On.cell (B := wr.heap.size) c6 (by omega)
      have hinh := last.On.inh wr.heap.size wr
      have hcall : ∀ x : last.On wr.heap.size wr, Calls Tryd.prog 28 #[.agg #[.int .i64 l[k].1, .int .i64 l[k].2.1, .slice pa pl pc], .agg #[.int .i64 l[k].1, .int .i64 l[k].2.1, .slice qa ql qc]] x.w fun e w' => e = .returned (.bool true) ∧ ∃ y : last.On wr.heap.size wr, w' = y.w := fun x => last.Calls.on x (Nat.le_refl _) (eqRecT l[k].1 l[k].2.1 pa qa pl pc ql qc l[k].2.2 x.w (hS1.below x.2) (hS2.below x.2))
      clear hcl hcl2 hc hc2 i1 i2 hsm h h2 hS1 hS2
      generalize l[k] = p at *
      go_wp2_with fail
      refine last.wp_region_on wr.heap.size (by kernel_rfl) (by kernel_rfl) ?_
      repeat (go_big_quiet_step ((go_at_call 28; exact hcall _)))
      refine wpQuiet_nil ?_
      intro w5 hw5
      obtain ⟨x5, hw5⟩ := hw5
      subst hw5
      have hB5 : Below w.heap.size w x5.w := hB.trans (x5.2.mono hB.size)
      go_wp2_with fail
      go_roundw
      case rel => exact ⟨k + 1, by omega, by go_num, hB5⟩
      case measure => simp [intOf]; omega
    · go_wp2_with fail
      go_ret
      exact ⟨rfl, hB⟩

/-! ### marks -/
def cntR (l : List Rc) : Nat := (l.map fun x => 2 + 3 * x.2.2.length).sum
def markR : Nat → List Rc → List Rc
  | _, [] => []
  | k, x :: l => ((k : Int), ((k + 1 : Nat) : Int), marksO (k + 2) x.2.2.length) :: markR (k + 2 + 3 * x.2.2.length) l
theorem cntR_cons (x : Rc) (l : List Rc) : cntR (x :: l) = 2 + 3 * x.2.2.length + cntR l := by simp [cntR]
theorem cntR_append (a b : List Rc) : cntR (a ++ b) = cntR a + cntR b := by simp [cntR]
theorem cntR_take (l : List Rc) (i : Nat) (h : i < l.length) : cntR (l.take (i + 1)) = cntR (l.take i) + 2 + 3 * l[i].2.2.length := by
  rw [List.take_succ_eq_append_getElem h, cntR_append]; simp [cntR]; omega
theorem cntR_take_le (l : List Rc) (i : Nat) : cntR (l.take i) ≤ cntR l := by
  have : cntR l = cntR (l.take i) + cntR (l.drop i) := by rw [← cntR_append, List.take_append_drop]
  omega
theorem markR_length (k : Nat) (l : List Rc) : (markR k l).length = l.length := by
  induction l generalizing k with
  | nil => rfl
  | cons x l ih => simp [markR, ih]
theorem markR_append (k : Nat) (a b : List Rc) : markR k (a ++ b) = markR k a ++ markR (k + cntR a) b := by
  induction a generalizing k with
  | nil => simp [markR, cntR]
  | cons x a ih => simp only [List.cons_append, markR, ih, cntR_cons, Nat.add_assoc]
def markRTo (l : List Rc) (k i : Nat) : List Rc := markR k (l.take i) ++ l.drop i
theorem markRTo_zero (l : List Rc) (k : Nat) : markRTo l k 0 = l := by simp [markRTo, markR]
theorem markRTo_all (l : List Rc) (k : Nat) : markRTo l k l.length = markR k l := by simp [markRTo]
theorem markRTo_length (l : List Rc) (k i : Nat) (h : i ≤ l.length) : (markRTo l k i).length = l.length := by simp [markRTo, markR_length]; omega
theorem markRTo_at (l : List Rc) (k i : Nat) (h : i < l.length) : (markRTo l k i)[i]'(by rw [markRTo_length l k i (by omega)]; exact h) = l[i] := by
  unfold markRTo
  rw [List.getElem_append_right (by rw [markR_length, List.length_take]; exact Nat.min_le_left _ _)]
  simp [markR_length, Nat.min_eq_left (Nat.le_of_lt h)]
theorem markRTo_set (l : List Rc) (k i : Nat) (h : i < l.length) :
    (markRTo l k i).set i (((k + cntR (l.take i) : Nat) : Int), ((k + cntR (l.take i) + 1 : Nat) : Int), marksO (k + cntR (l.take i) + 2) l[i].2.2.length) = markRTo l k (i + 1) := by
  unfold markRTo
  rw [List.set_append_right _ _ (by rw [markR_length, List.length_take]; exact Nat.min_le_left _ _), markR_length, List.length_take, Nat.min_eq_left (Nat.le_of_lt h), Nat.sub_self, List.drop_eq_getElem_cons h, List.set_cons_zero,
    List.take_succ_eq_append_getElem h, markR_append, List.append_assoc]
  rfl
theorem markR_at (k : Nat) (l : List Rc) (i : Nat) (h : i < l.length) : (markR k l)[i]'(by rw [markR_length]; exact h) = (((k + cntR (l.take i) : Nat) : Int), ((k + cntR (l.take i) + 1 : Nat) : Int), marksO (k + cntR (l.take i) + 2) l[i].2.2.length) := by
  induction l generalizing k i with
  | nil => simp at h
  | cons x l ih =>
    cases i with
    | zero => simp [markR, cntR]
    | succ i =>
      simp only [markR, List.getElem_cons_succ, List.take_succ_cons, cntR_cons]
      rw [ih _ i (by simpa using h)]
      simp only [Nat.add_assoc]

/-- the orders of one record, written over where they lie (or nil) -/
theorem OwnR.setOpsV {w w' : World} {base : Nat} {v : Value} {l : List Rc} {hs : List Value} (h : OwnR w base v l hs) (i : Nat) (hi : i < l.length) (P : List Od) (hP : OwnV w' base (hs[i]'(by have := h.len; omega)) P) (hg : w.grownBy w' (hs[i]'(by have := h.len; omega)).ownBlock) :
    OwnR w' base v (l.set i (l[i].1, l[i].2.1, P)) hs := by
  cases hk : (hs[i]'(by have := h.len; omega)).ownBlock with
  | some k => rw [hk] at hg; exact h.setOps i hi P hP hk hg
  | none =>
    rw [hk] at hg
    have hsm := h.sm l[i] (List.getElem_mem hi)
    have h2 := h.of_blocks (w' := w') (fun k hb => hg.block k (h.lt k hb).2 (by simp))
    refine ⟨by simpa using h.len, mem_set_smallR h.sm ⟨hsm.1, hsm.2.1, hP.1⟩, ?_, fun j hj => ?_, h.apart, h.out⟩
    · rw [recVals_ops l hs i P h.len hi, List.length_set]; exact h2.row
    · have hjl : j < l.length := by simpa using hj
      by_cases e : i = j
      · subst e; rw [List.getElem_set_self]; exact hP
      · rw [List.getElem_set_ne e]; exact h2.ops j hjl
theorem KeepR.grownV {v : Value} {hs : List Value} {w w' w'' : World} {row : Option Nat} (h : KeepR v hs w w') (hg : w'.grownBy w'' row) (hk : ∀ k, row = some k → BlkR v hs k) : KeepR v hs w w'' :=
  ⟨hg.os.trans h.os, hg.tape.trans h.tape, hg.output.trans h.output, Nat.le_trans h.size hg.size, fun j hj hn => (hg.block j (Nat.lt_of_lt_of_le hj h.size) (fun e => hn (hk j e.symm))).trans (h.block j hj hn)⟩

set_option maxRecDepth 100000 in
set_option maxHeartbeats 2000000 in
theorem markRecS (v : Value) (base k0 : Nat) (l : List Rc) (hs : List Value) (w : World) (h : OwnR w base v l hs) (hb : base ≤ w.heap.size) (hk1 : 1 ≤ k0) (hk0 : k0 + cntR l ≤ 1099511627776) (hll : l.length ≤ 1099511627776) (K : Int) (hK : Hid (K = (k0 : Int))) :
    Calls Tryd.prog 36 #[v, .int .i64 K] w fun e w' => e = .returned (.int .i64 ((k0 + cntR l : Nat) : Int)) ∧ OwnR w' base v (markR k0 l) hs ∧ KeepR v hs w w' := by
  have eK := hK.out
  subst eK
  clear hK
  rcases h.shape with ⟨rfl, rfl, rfl⟩ | ⟨g, cap, rfl, hcap, hmx⟩
  · go_enter Tryd.func36, Tryd.ntmps36
    go_wp2_with fail
    refine wp_loop_rounds 1 ?_
    rw [rounds_succ]
    go_wp2_with fail
    go_ret
    exact ⟨rfl, h, KeepR.refl _ _ _⟩
  have hlen := h.len
  go_enter Tryd.func36, Tryd.ntmps36
  go_wp2_with fail
  go_loopw [1, 5] (fun kv i wr => ∃ k : Nat, k ≤ l.length ∧ i = .int .i64 k ∧ kv = .int .i64 ((k0 + cntR (l.take k) : Nat) : Int) ∧ OwnR wr base (.slice (some ⟨g, 0, none⟩) l.length cap) (markRTo l k0 k) hs ∧ KeepR (.slice (some ⟨g, 0, none⟩) l.length cap) hs w wr) (fun _ i _ => l.length - (intOf i).toNat)
  case atStart => exact ⟨0, Nat.zero_le _, rfl, rfl, by rw [markRTo_zero]; exact h, KeepR.refl _ _ _⟩
  case round =>
    obtain ⟨k, hk, rfl, rfl, hO, hB⟩ := hrel
    by_cases hlt : k < l.length
    · have hml := markRTo_length l k0 k hk
      have hlen2 : k < (markRTo l k0 k).length := by omega
      have hat : (markRTo l k0 k)[k]? = some l[k] := by rw [List.getElem?_eq_getElem hlen2, markRTo_at l k0 k hlt]
      have hset := markRTo_set l k0 k hlt
      have hct := cntR_take l k hlt
      have hcl := cntR_take_le l (k + 1)
      have hki : (k : Int) < (l.length : Int) := by omega
      obtain ⟨c, hc⟩ : ∃ c, k0 + cntR (l.take k) = c := ⟨_, rfl⟩
      have hnext : k0 + cntR (l.take (k + 1)) = c + 2 + 3 * l[k].2.2.length := by omega
      rw [hc] at hset
      have hc2 : c + 2 + 3 * l[k].2.2.length ≤ 1099511627776 := by omega
      have hc1 : 1 ≤ c := by omega
      obtain ⟨L, hL⟩ : ∃ L, markRTo l k0 k = L := ⟨_, rfl⟩
      rw [hL] at hO hat hset hlen2
      have hat : L[k] = l[k] := by rw [List.getElem?_eq_getElem hlen2] at hat; exact Option.some.inj hat
      have HN := Hid.mk' hnext
      have HS := Hid.mk' hset
      have hkh : k < hs.length := by omega
      have d1 := (hO.at k hlen2).1
      have f1 := hO.frozen (k * 3)
      have R := hO.setKind k hlen2 (c : Int) (WalkArith.wf_i64 (by omega))
      have hlen3 : k < (L.set k ((c : Int), L[k].2)).length := by simpa using hlen2
      have d2 := (R.1.at k hlen3).2.1
      have f2 := R.1.frozen (k * 3 + 1)
      have R2 := R.1.setTx k hlen3 ((c + 1 : Nat) : Int) (WalkArith.wf_i64 (by omega))
      simp only [List.getElem_set_self, List.set_set] at R2 d2
      have hlen4 : k < (L.set k ((c : Int), ((c + 1 : Nat) : Int), L[k].2.2)).length := by simpa using hlen2
      have d3 := (R2.1.at k hlen4).2.2
      have hPk := R2.1.ops k hlen4
      simp only [List.getElem_set_self] at hPk
      have hB2 := (hB.grown R.2 (.inl rfl)).grown R2.2 (.inl rfl)
      have hlk : L[k].2.2.length = l[k].2.2.length := by rw [hat]
      obtain ⟨y, hy⟩ : ∃ y, hs[k] = y := ⟨_, rfl⟩
      rw [hy] at hPk d3
      have HY := Hid.mk' hy
      have hsh := hPk.sl
      obtain ⟨ya, yc, hye, _⟩ := hsh
      have HMV : Hid (∀ K, Hid (K = ((c + 2 : Nat) : Int)) → Calls Tryd.prog 60 #[y, .int .i64 K] _ _) := fun K hK => markV y base (c + 2) L[k].2.2 _ hPk (by omega) (by omega) K hK
      have HR2 := Hid.mk' R2.1
      have HB2 := Hid.mk' hB2
      have e1 : ((c + 1 : Nat) : Int) = (c : Int) + 1 := by omega
      have HE1 := Hid.mk' e1
      rw [hc]
      rw [e1] at HMV HR2 HB2 d3
      subst hye
      have HLK := Hid.mk' hlk
      have hlen5 : k < (L.set k ((c : Int), (c : Int) + 1, L[k].2.2)).length := by simpa using hlen2
      clear hnext hset hct hcl hL hc hml hat hy R R2 hO hB hB2 hPk e1 hlk
      go_wp2_with fail
      refine (HMV.out _ (by show _ = _; omega)).mono ?_
      rintro e w3 ⟨rfl, hP3, hG3⟩
      have hO3 := HR2.out.setOpsV k hlen5 (marksO (c + 2) L[k].2.2.length) (by simp only [HY.out]; exact hP3) (by simp only [HY.out]; exact hG3)
      simp only [List.getElem_set_self, List.set_set] at hO3
      rw [← HE1.out, HLK.out, HS.out] at hO3
      have hB3 := HB2.out.grownV hG3 (fun j e => .inr ⟨hs[k], List.getElem_mem _, by rw [HY.out]; exact e⟩)
      have HO3 := Hid.mk' hO3
      have HV : Hid (((c + 2 + 3 * L[k].2.2.length : Nat) : Int) = ((k0 + cntR (l.take (k + 1)) : Nat) : Int)) := by show _ = _; rw [HN.out, HLK.out]
      rw [HV.out]
      clear hO3 hP3 hG3 HMV HR2 d1 d2 d3 f1 f2 HB2
      go_wp2_with fail
      go_roundw
      case rel => exact ⟨k + 1, by omega, by go_num, rfl, HO3.out, hB3⟩
      case measure => simp [intOf]; omega
    · have e : k = l.length := by omega
      subst e
      rw [markRTo_all] at hO
      have HO := Hid.mk' hO
      have HE : Hid (k0 + cntR (l.take l.length) = k0 + cntR l) := by show _ = _; rw [List.take_length]
      clear hO
      go_wp2_with fail
      go_ret
      exact ⟨ret_int (by rw [HE.out]), HO.out, hB⟩

set_option maxRecDepth 100000 in
set_option maxHeartbeats 2000000 in
theorem heldRecS (a : Option Addr) (len cap k0 : Nat) (l : List Rc) (w : World) (h : SlR w a len (markR k0 l)) (hk1 : 1 ≤ k0) (hk0 : k0 + cntR l ≤ 1099511627776) (hll : l.length ≤ 1099511627776) (K : Int) (hK : Hid (K = (k0 : Int))) :
    Calls Tryd.prog 37 #[.slice a len cap, .int .i64 K] w fun e w' => e = .returned (.int .i64 ((k0 + cntR l : Nat) : Int)) ∧ Below w.heap.size w w' := by
  have eK := hK.out
  subst eK
  clear hK
  have hl0 := h.1
  rw [markR_length] at hl0
  subst hl0
  have hc := h.2.2.2
  go_enter Tryd.func37, Tryd.ntmps37
  go_wp2_with fail
  go_loopw [1, 5] (fun kv i wr => ∃ k : Nat, k ≤ l.length ∧ i = .int .i64 k ∧ kv = .int .i64 ((k0 + cntR (l.take k) : Nat) : Int) ∧ Below w.heap.size w wr) (fun _ i _ => l.length - (intOf i).toNat)
  case atStart => exact ⟨0, Nat.zero_le _, rfl, rfl, Below.refl _ _⟩
  case round =>
    obtain ⟨k, hk, rfl, rfl, hB⟩ := hrel
    by_cases hlt : k < l.length
    · obtain ⟨b, off, ha⟩ : ∃ b off, a = some ⟨b, off, none⟩ := by
        obtain ⟨b, off, ha, _⟩ := hc (by omega)
        exact ⟨b, off, ha⟩
      subst ha
      have hkl : k < (markR k0 l).length := by rw [markR_length]; exact hlt
      have hit := (h.at k hkl).below hB
      rw [markR_at k0 l k hlt] at hit
      have hct := cntR_take l k hlt
      have hcl := cntR_take_le l (k + 1)
      have hki : (k : Int) < (l.length : Int) := by omega
      obtain ⟨c, hce⟩ : ∃ c, k0 + cntR (l.take k) = c := ⟨_, rfl⟩
      have hnext : k0 + cntR (l.take (k + 1)) = c + 2 + 3 * l[k].2.2.length := by omega
      rw [hce] at hit
      have hc2 : c + 2 + 3 * l[k].2.2.length ≤ 1099511627776 := by omega
      have hc1 : 1 ≤ c := by omega
      obtain ⟨c1, c2, pa, pl, pc, c3, hS, _⟩ := hit
      simp only [] at c1 c2 c3 hS
      rw [show ((c + 1 : Nat) : Int) = (c : Int) + 1 by omega] at c2
      have hpl := hS.1
      rw [marksO_length] at hpl
      rw [hpl] at hS hc2 hnext
      have HN := Hid.mk' hnext
      have HHO : Hid (∀ K, Hid (K = ((c + 2 : Nat) : Int)) → Calls Tryd.prog 61 #[.slice pa pl pc, .int .i64 K] wr fun e w' => e = .returned (.int .i64 ((c + 2 + 3 * pl : Nat) : Int)) ∧ Below wr.heap.size wr w') := fun K hK => by
        have e := hK.out
        subst e
        exact heldOpS pa pl pc (c + 2) wr hS (by omega) (by omega)
      rw [hce]
      clear hpl hnext hct hcl hS hkl hce h hc
      have hnn : ¬ ((c + 2 + 3 * pl : Nat) : Int) < 0 := by omega
      generalize hZ : c + 2 + 3 * pl = Z at *
      go_wp2_with fail
      refine (HHO.out _ (by show _ = _; omega)).mono ?_
      rintro e w9 ⟨rfl, hb9⟩
      have hB9 := hB.trans (hb9.mono hB.size)
      have HZN : Hid ((Z : Int) = ((k0 + cntR (l.take (k + 1)) : Nat) : Int)) := by show _ = _; rw [HN.out]
      clear HHO hb9 c1 c2 c3
      go_wp2_with fail
      go_roundw
      case rel => exact ⟨k + 1, by omega, by go_num, by rw [HZN.out], hB9⟩
      case measure => simp [intOf]; omega
    · have e : k = l.length := by omega
      subst e
      have HE : Hid (k0 + cntR (l.take l.length) = k0 + cntR l) := by show _ = _; rw [List.take_length]
      go_wp2_with fail
      go_ret
      exact ⟨ret_int (by rw [HE.out]), hB⟩
end Go.Proofs.YtooiinicnkhlbaaDoor.recs

namespace Go.Proofs.YtooiinicnkhlbaaDoor.recs
open Go Go.RowKit Go.Proofs.YtooiinicnkhlbaaDoor.base Go.Proofs.YtooiinicnkhlbaaDoor.pairs Go.Proofs.YtooiinicnkhlbaaDoor.ords Go.Proofs.YtooiinicnkhlbaaDoor.helps
set_option linter.unusedVariables false

theorem readGo_fits (bs : List UInt8) : ∀ (f p : Nat) (acc : List Rc), (∀ r ∈ acc, recOk r = true) → acc.length ≤ p → p ≤ bs.length → (∀ r ∈ (readGo bs f p acc).1, recOk r = true) ∧ (readGo bs f p acc).1.length ≤ (readGo bs f p acc).2 ∧ (readGo bs f p acc).2 ≤ bs.length := by
  intro f
  induction f with
  | zero => intro p acc h1 h2 h3; exact ⟨h1, h2, h3⟩
  | succ f ih =>
    intro p acc h1 h2 h3
    unfold readGo
    split
    · exact ⟨h1, h2, h3⟩
    · split
      · exact ⟨h1, h2, h3⟩
      · next r q hg =>
        obtain ⟨_, hr, hq, hl, _⟩ := getRec_at hg
        rw [Int.toNat_natCast] at hq
        refine ih q (acc ++ [r]) (fun x hx => ?_) (by simp; omega) hl
        rcases List.mem_append.1 hx with h | h
        · exact h1 x h
        · rw [List.mem_singleton.1 h]; exact hr
theorem cntR_le (l : List Rc) (h : ∀ r ∈ l, recOk r = true) : cntR l ≤ 26 * l.length := by
  induction l with
  | nil => simp [cntR]
  | cons x l ih =>
    rw [cntR_cons, List.length_cons]
    have h1 := ih fun r hr => h r (List.mem_cons_of_mem _ hr)
    have h2 : x.2.2.length ≤ 8 := by
      rcases ((recOk_iff x).1 (h x List.mem_cons_self)).2 with ⟨_, h2⟩ | ⟨_, h2⟩
      · exact ((opsOk_iff _).1 h2).2.2
      · rw [h2]; simp
    omega
theorem readRecs_fits (bs : List UInt8) : (readRecs bs).1.length ≤ bs.length ∧ cntR (readRecs bs).1 ≤ 26 * bs.length := by
  obtain ⟨h1, h2, h3⟩ := readGo_fits bs (bs.length + 1) 0 [] (fun _ h => absurd h List.not_mem_nil) (Nat.le_refl _) (Nat.zero_le _)
  have h4 := cntR_le _ h1
  unfold readRecs
  exact ⟨by omega, by omega⟩
theorem readPost_open {w w' : World} {r : List Rc × Nat} {e : Ending} {q : Int} {L : List Rc} (hL : r.1 = L) (hq : (r.2 : Int) = q) (h : ReadPost w r e w') :
    ∃ a cap hs, e = .returned (.tuple #[.slice a L.length cap, .int .i64 q]) ∧ OwnR w' w.heap.size (.slice a L.length cap) L hs ∧ Below w.heap.size w w' := by
  obtain ⟨v, hs, rfl, hv, hb⟩ := h
  subst hL hq
  rcases hv.shape with ⟨e, e2, _⟩ | ⟨g, c, e, _⟩
  · refine ⟨none, 0, hs, ?_, ?_, hb⟩
    · rw [e, e2]; rfl
    · rw [e2]; rw [e, e2] at hv; exact hv
  · subst e; exact ⟨_, c, hs, rfl, hv, hb⟩
structure TriR (w0 w : World) (vs vg : Value) (hss hsg : List Value) (gx len : Nat) (X : List UInt8) (S G : List Rc) : Prop where
  bel : Below w0.heap.size w0 w
  x : Own w w0.heap.size gx len len X
  s : OwnR w w0.heap.size vs S hss
  g : OwnR w w0.heap.size vg G hsg
  hs : ∀ k, BlkR vs hss k → k < gx
  hg : ∀ k, BlkR vg hsg k → gx < k
section
variable {w0 w w' : World} {vs vg : Value} {hss hsg : List Value} {gx len : Nat} {X : List UInt8} {S G : List Rc}
theorem TriR.below (h : TriR w0 w vs vg hss hsg gx len X S G) (hb : Below w.heap.size w w') : TriR w0 w' vs vg hss hsg gx len X S G :=
  ⟨h.bel.trans (hb.mono h.bel.size), h.x.below hb, h.s.below hb, h.g.below hb, h.hs, h.hg⟩
theorem TriR.markX (h : TriR w0 w vs vg hss hsg gx len X S G) {X' : List UInt8} (ho : Own w' w0.heap.size gx len len X') (hg : w.grownBy w' (some gx)) : TriR w0 w' vs vg hss hsg gx len X' S G :=
  ⟨h.bel.grown hg h.bel.size (fun k e => by cases e; exact h.x.lt.1), ho, h.s.grown hg (fun e => by have := h.hs gx e; omega), h.g.grown hg (fun e => by have := h.hg gx e; omega), h.hs, h.hg⟩
theorem TriR.markG (h : TriR w0 w vs vg hss hsg gx len X S G) {G' : List Rc} (ho : OwnR w' w0.heap.size vg G' hsg) (hk : KeepR vg hsg w w') : TriR w0 w' vs vg hss hsg gx len X S G' := by
  have hB : Below w0.heap.size w w' := hk.bel h.bel.size (fun k e => (h.g.lt k e).1)
  have hB2 : Below (gx + 1) w w' := hk.bel h.x.lt.2 (fun k e => h.hg k e)
  refine ⟨h.bel.trans hB, ?_, h.s.within hB2 (fun k e => by have := h.hs k e; omega), ho, h.hs, h.hg⟩
  exact ⟨h.x.1, rowR_of_block h.x.2 (fun k e => by cases e; exact hB2.block gx (Nat.lt_succ_self gx))⟩
end
end Go.Proofs.YtooiinicnkhlbaaDoor.recs

namespace Go.Proofs.YtooiinicnkhlbaaDoor.base
open Go.RowKit
set_option linter.unusedVariables false
theorem big_ (a0 : Option Addr) (len0 cap0 : Nat) (w : World) (h : len0 ≤ maxLen) :
    Calls Tryd.prog 10 #[.slice a0 len0 cap0] w fun e w' => e = .returned (.bool (decide (1048576 < (len0 : Int)))) ∧ w' = w := by
  unfold maxLen at h
  go_enter Tryd.func10, Tryd.ntmps10
  go_wp2
  go_ret
  exact ⟨rfl, rfl⟩
end Go.Proofs.YtooiinicnkhlbaaDoor.base

namespace Go.Proofs.YtooiinicnkhlbaaDoor.draw
open Go.RowKit Go.Proofs.YtooiinicnkhlbaaDoor.base
set_option linter.unusedVariables false
set_option linter.unusedSimpArgs false

/-- block gc is a cursor over the bytes 'code', which lie where they lay in the world w0 -/
def Cur (w0 w : World) (gc : Nat) (a : Option Addr) (len cap : Nat) (code : List UInt8) : Prop :=
  Sl w0 a len code ∧ Below w0.heap.size w0 w ∧ w0.heap.size ≤ gc ∧ len ≤ 1099511627776 ∧
  ∃ i h : Int, 0 ≤ i ∧ i ≤ len ∧ w.heap[gc]? = some (.cells #[.slice a len cap, .int .i64 i, .int .i64 h] 81 (0, 0))

theorem and_byte (z : Int) : 0 ≤ bits .and .i64 z 255 ∧ bits .and .i64 z 255 ≤ 255 := by
  have e : bits .and .i64 z 255 = IntKind.i64.wrap (((BitVec.ofInt 64 z) &&& (BitVec.ofInt 64 255)).toNat : Int) := rfl
  have h : ((BitVec.ofInt 64 z) &&& (BitVec.ofInt 64 255)).toNat ≤ 255 := by
    rw [BitVec.toNat_and]
    exact Nat.le_trans Nat.and_le_right (by decide)
  rw [e, wraps_i64 _ (by omega) (by omega)]
  omega

theorem cur_of {w0 w w1 : World} {gc : Nat} {a : Option Addr} {len cap : Nat} {code : List UInt8} {i h : Int} (hS : Sl w0 a len code) (hB : Below w0.heap.size w0 w) (hgc : w0.heap.size ≤ gc) (hln : len ≤ 1099511627776)
    (hi0 : 0 ≤ i) (hi1 : i ≤ len) (hg : w.grownBy w1 (some gc)) (hr : w1.heap[gc]? = some (.cells #[.slice a len cap, .int .i64 i, .int .i64 h] 81 (0, 0))) : Cur w0 w1 gc a len cap code :=
  ⟨hS, hB.grown hg hB.size (fun k e => by cases e; exact hgc), hgc, hln, i, h, hi0, hi1, hr⟩

set_option maxRecDepth 100000 in
set_option maxHeartbeats 1000000 in
theorem byte_ (w0 w : World) (gc : Nat) (a : Option Addr) (len cap : Nat) (code : List UInt8) (h : Cur w0 w gc a len cap code) :
    Calls Tryd.prog 77 #[.pointer (some ⟨gc, 0, none⟩)] w fun e w' => ∃ x : Int, 0 ≤ x ∧ x ≤ 255 ∧ e = .returned (.int .i64 x) ∧ Cur w0 w' gc a len cap code ∧ w.grownBy w' (some gc) := by
  obtain ⟨hS, hB, hgc, hln, i, hh, hi0, hi1, hrow⟩ := h
  have c0 : w.cell? ⟨gc, 0, none⟩ = some (.slice a len cap) := cell_cur hrow 0 _ rfl
  have c1 : w.cell? ⟨gc, 1, none⟩ = some (.int .i64 i) := cell_cur hrow 1 _ rfl
  have c2 : w.cell? ⟨gc, 2, none⟩ = some (.int .i64 hh) := cell_cur hrow 2 _ rfl
  have f1 : w.frozen? ⟨gc, 1, none⟩ = false := frozen_of_row w gc 1 _ _ hrow
  have f2 : w.frozen? ⟨gc, 2, none⟩ = false := frozen_of_row w gc 2 _ _ hrow
  have HROW := Hid.mk' hrow
  clear hrow
  by_cases hlt : i < len
  · obtain ⟨I, rfl⟩ := Int.eq_ofNat_of_zero_le hi0
    have hS' := hS.below hB
    have hIl : I < code.length := by have := hS.1; omega
    obtain ⟨b, off, ha, hcl⟩ := hS.2.2 (by omega)
    subst ha
    have hbb : b < w0.heap.size := World.block_lt_of_cell? w0 _ (hcl I hIl)
    have hne : ¬ b = gc := by omega
    have hne2 : ¬ gc = b := by omega
    generalize hcc : code[I].toNat = c
    have hc256 : c < 256 := by rw [← hcc]; exact UInt8.toNat_lt _
    have c3 : w.cell? ⟨b, off + I, none⟩ = some (.int .u8 (c : Int)) := by rw [hS'.at I hIl, hcc]
    have hi3 : (I : Int) < (len : Int) := hlt
    clear hcl hcc hIl hS'
    go_enter Tryd.func77, Tryd.ntmps77
    go_wp2
    go_quiet (fail)
    go_wp2
    go_quiet (fail)
    go_wp2
    go_quiet (fail)
    go_wp2
    go_ret
    have hs := set_cur HROW.out 2 (.int .i64 (wrap64 (wrap64 (hh * 6364136223846793005) + 1442695040888963407)))
    have hs2 := fun n => set_cur (w := (w.setCell ⟨gc, 2, none⟩ (.int .i64 (wrap64 (wrap64 (hh * 6364136223846793005) + 1442695040888963407)))).drewN n) hs.1 1 (.int .i64 ((I : Int) + 1))
    have hg := fun n => grownBy_trans (grown_drewN hs.2 n) (hs2 n).2
    exact ⟨_, (and_byte _).1, (and_byte _).2, rfl, cur_of hS hB hgc hln (by omega) (by omega) (hg _) (hs2 _).1, hg _⟩
  · go_enter Tryd.func77, Tryd.ntmps77
    go_wp2
    go_quiet (fail)
    go_wp2
    go_quiet (fail)
    go_wp2
    go_ret
    have hs := set_cur HROW.out 2 (.int .i64 (wrap64 (wrap64 (hh * 6364136223846793005) + 1442695040888963407)))
    exact ⟨_, (and_byte _).1, (and_byte _).2, rfl, cur_of hS hB hgc hln hi0 hi1 (grown_drewN (grown_drewN hs.2 _) _) hs.1, grown_drewN (grown_drewN hs.2 _) _⟩

theorem Cur.lt {w0 w : World} {gc : Nat} {a : Option Addr} {len cap : Nat} {code : List UInt8} (h : Cur w0 w gc a len cap code) : gc < w.heap.size := by
  obtain ⟨_, _, _, _, i, hh, _, _, hr⟩ := h
  exact (Array.getElem?_eq_some_iff.1 hr).1
theorem Cur.bel {w0 w : World} {gc : Nat} {a : Option Addr} {len cap : Nat} {code : List UInt8} (h : Cur w0 w gc a len cap code) : Below w0.heap.size w0 w := h.2.1
theorem Cur.ge {w0 w : World} {gc : Nat} {a : Option Addr} {len cap : Nat} {code : List UInt8} (h : Cur w0 w gc a len cap code) : w0.heap.size ≤ gc := h.2.2.1
/-- a step that does not touch the cursor's block -/
theorem Cur.grown {w0 w w1 : World} {gc : Nat} {a : Option Addr} {len cap : Nat} {code : List UInt8} {row : Option Nat} (h : Cur w0 w gc a len cap code) (hg : w.grownBy w1 row) (hne : some gc ≠ row) (hr : ∀ k, row = some k → w0.heap.size ≤ k) : Cur w0 w1 gc a len cap code := by
  have hlt := h.lt
  obtain ⟨hS, hB, hgc, hln, i, hh, hi0, hi1, hrow⟩ := h
  exact ⟨hS, hB.grown hg hB.size hr, hgc, hln, i, hh, hi0, hi1, by rw [hg.block gc hlt hne]; exact hrow⟩
theorem Cur.below {w0 w w1 : World} {gc : Nat} {a : Option Addr} {len cap : Nat} {code : List UInt8} (h : Cur w0 w gc a len cap code) (hb : Below w.heap.size w w1) : Cur w0 w1 gc a len cap code :=
  h.grown (row := none) ⟨hb.os, hb.tape, hb.output, hb.size, fun k hk _ => hb.block k hk⟩ (by simp) (fun k e => by cases e)

set_option maxRecDepth 100000 in
set_option maxHeartbeats 1000000 in
theorem below_ (w0 w : World) (gc : Nat) (a : Option Addr) (len cap : Nat) (code : List UInt8) (n : Int) (h : Cur w0 w gc a len cap code) (hn : 0 < n) (hn2 : n ≤ 1000000000) :
    Calls Tryd.prog 50 #[.pointer (some ⟨gc, 0, none⟩), .int .i64 n] w fun e w' => ∃ x : Nat, (x : Int) < n ∧ e = .returned (.int .i64 (x : Int)) ∧ Cur w0 w' gc a len cap code ∧ w.grownBy w' (some gc) := by
  by_cases hs : n ≤ 256
  · go_enter Tryd.func50, Tryd.ntmps50
    go_wp2_with fail
    refine (byte_ w0 _ gc a len cap code h).mono ?_
    rintro e w1 ⟨x, hx0, hx1, rfl, hc1, hg1⟩
    go_wp2_with fail
    go_ret
    have e1 : 0 ≤ x % n := Int.emod_nonneg _ (by omega)
    have e2 : x % n < n := Int.emod_lt_of_pos _ hn
    exact ⟨(x % n).toNat, by omega, ret_int (by omega), hc1, hg1⟩
  · go_enter Tryd.func50, Tryd.ntmps50
    go_wp2_with fail
    refine (byte_ w0 _ gc a len cap code h).mono ?_
    rintro e w1 ⟨x, hx0, hx1, rfl, hc1, hg1⟩
    go_wp2_with fail
    refine (byte_ w0 _ gc a len cap code hc1).mono ?_
    rintro e w2 ⟨y, hy0, hy1, rfl, hc2, hg2⟩
    go_wp2_with fail
    refine (byte_ w0 _ gc a len cap code hc2).mono ?_
    rintro e w3 ⟨z, hz0, hz1, rfl, hc3, hg3⟩
    go_wp2_with fail
    go_ret
    have e1 : 0 ≤ (x * 65536 + y * 256 + z) % n := Int.emod_nonneg _ (by omega)
    have e2 : (x * 65536 + y * 256 + z) % n < n := Int.emod_lt_of_pos _ hn
    exact ⟨((x * 65536 + y * 256 + z) % n).toNat, by omega, ret_int (by omega), hc3, grownBy_trans (grownBy_trans hg1 hg2) hg3⟩

/-- one of a list of numbers that lies in a row of its own -/
theorem int_ (w0 w : World) (gc : Nat) (a : Option Addr) (len cap : Nat) (code : List UInt8) (gl n cp : Nat) (zs : Array Value) (mk : Nat × Nat) (h : Cur w0 w gc a len cap code) (hr : w.heap[gl]? = some (.cells zs 3 mk)) (hz : zs.size = n) (hn : 0 < n) (hn2 : n ≤ 1000) (hne : gl ≠ gc)
    (P : Int → Prop) (hP : ∀ i, i < n → ∃ z, zs[i]? = some (.int .i64 z) ∧ P z) :
    Calls Tryd.prog 51 #[.pointer (some ⟨gc, 0, none⟩), .slice (some ⟨gl, 0, none⟩) n cp] w fun e w' => ∃ z : Int, P z ∧ e = .returned (.int .i64 z) ∧ Cur w0 w' gc a len cap code ∧ w.grownBy w' (some gc) := by
  go_enter Tryd.func51, Tryd.ntmps51
  go_wp2_with fail
  refine (below_ w0 _ gc a len cap code _ h (by omega) (by omega)).mono ?_
  rintro e w1 ⟨x, hx, rfl, hc1, hg1⟩
  have hgl : gl < w.heap.size := (Array.getElem?_eq_some_iff.1 hr).1
  obtain ⟨z, hz1, hz2⟩ := hP x (by omega)
  have c1 : w1.cell? ⟨gl, x, none⟩ = some (.int .i64 z) := by
    have e1 := hg1.block gl hgl (by simpa using hne)
    rw [hr] at e1
    exact cell_cur e1 x _ hz1
  go_wp2_with fail
  go_ret
  exact ⟨z, hz2, rfl, hc1, hg1⟩

theorem str_ (w0 w : World) (gc : Nat) (a : Option Addr) (len cap : Nat) (code : List UInt8) (gl n cp : Nat) (zs : Array Value) (mk : Nat × Nat) (h : Cur w0 w gc a len cap code) (hr : w.heap[gl]? = some (.cells zs 9 mk)) (hz : zs.size = n) (hn : 0 < n) (hn2 : n ≤ 1000) (hne : gl ≠ gc)
    (P : ByteArray → Prop) (hP : ∀ i, i < n → ∃ z, zs[i]? = some (.string z) ∧ P z) :
    Calls Tryd.prog 106 #[.pointer (some ⟨gc, 0, none⟩), .slice (some ⟨gl, 0, none⟩) n cp] w fun e w' => ∃ z : ByteArray, P z ∧ e = .returned (.string z) ∧ Cur w0 w' gc a len cap code ∧ w.grownBy w' (some gc) := by
  go_enter Tryd.func106, Tryd.ntmps106
  go_wp2_with fail
  refine (below_ w0 _ gc a len cap code _ h (by omega) (by omega)).mono ?_
  rintro e w1 ⟨x, hx, rfl, hc1, hg1⟩
  have hgl : gl < w.heap.size := (Array.getElem?_eq_some_iff.1 hr).1
  obtain ⟨z, hz1, hz2⟩ := hP x (by omega)
  have c1 : w1.cell? ⟨gl, x, none⟩ = some (.string z) := by
    have e1 := hg1.block gl hgl (by simpa using hne)
    rw [hr] at e1
    exact cell_cur e1 x _ hz1
  go_wp2_with fail
  go_ret
  exact ⟨z, hz2, rfl, hc1, hg1⟩

set_option maxRecDepth 100000 in
set_option maxHeartbeats 1000000 in
theorem new_ (w0 w : World) (a : Option Addr) (len cap : Nat) (code : List UInt8) (h0 : Sl w0 a len code) (hB : Below w0.heap.size w0 w) (hln : len ≤ 1099511627776) :
    Calls Tryd.prog 38 #[.slice a len cap] w fun e w' => e = .returned (.pointer (some ⟨w.heap.size, 0, none⟩)) ∧ Cur w0 w' w.heap.size a len cap code ∧ Below w.heap.size w w' := by
  have hS := h0.below hB
  obtain ⟨hl, hm, hc⟩ := id hS
  subst hl
  go_enter Tryd.func38, Tryd.ntmps38
  go_wp2
  go_loop [3, 4] (fun hv i => ∃ (k : Nat) (hh : Int), k ≤ code.length ∧ i = .int .i64 (k : Int) ∧ hv = .int .i64 hh) (fun _ i => code.length - (intOf i).toNat)
  case atStart => exact ⟨0, _, Nat.zero_le _, rfl, rfl⟩
  case round =>
    obtain ⟨k, hh, hk, rfl, rfl⟩ := hrel
    by_cases hlt : k < code.length
    · by_cases h4 : k < 4000
      · obtain ⟨b, off, ha, hcl⟩ := hc (by omega)
        subst ha
        have c1 : w.cell? ⟨b, off + k, none⟩ = some (.int .u8 code[k].toNat) := hcl k hlt
        have hi1 : (k : Int) < (code.length : Int) := by omega
        clear hcl hc
        go_wp2
        go_round
        case rel => exact ⟨k + 1, _, by omega, by go_num, rfl⟩
        case measure => simp [intOf]; omega
      · go_wp2
        go_ret
        exact ⟨rfl, ⟨h0, hB.alloc hB.size _, hB.size, hln, 0, hh, by omega, by omega, heap_alloc_new w _⟩, (Below.refl _ _).alloc (Nat.le_refl _) _⟩
    · go_wp2
      go_ret
      exact ⟨rfl, ⟨h0, hB.alloc hB.size _, hB.size, hln, 0, hh, by omega, by omega, heap_alloc_new w _⟩, (Below.refl _ _).alloc (Nat.le_refl _) _⟩

end Go.Proofs.YtooiinicnkhlbaaDoor.draw

namespace Go.Proofs.YtooiinicnkhlbaaDoor.draw
open Go.RowKit Go.Proofs.YtooiinicnkhlbaaDoor.base
set_option linter.unusedVariables false
set_option linter.unusedSimpArgs false

theorem below_of_grown {w w' : World} {gc : Nat} (h : w.grownBy w' (some gc)) (B : Nat) (hB : B ≤ gc) (hs : B ≤ w.heap.size) : Below B w w' := below_grown h hB hs
theorem Cur.drew {w0 w : World} {gc : Nat} {a : Option Addr} {len cap : Nat} {code : List UInt8} (h : Cur w0 w gc a len cap code) : Cur w0 w.drew gc a len cap code :=
  ⟨h.1, h.2.1.drew, h.2.2⟩


def GotNum (w : World) (e : Ending) (w' : World) : Prop :=
  ∃ (g m cp : Nat) (bs : List UInt8) (z : Int), m ≤ 1000 ∧ (Lit.int .i64 z).wf = true ∧ e = .returned (.tuple #[.slice (some ⟨g, 0, none⟩) m cp, .int .i64 z]) ∧ Own w' w.heap.size g m cp bs ∧ Below w.heap.size w w'


def GotText (w : World) (e : Ending) (w' : World) : Prop :=
  ∃ (g m cp : Nat) (bs ss : List UInt8), m ≤ 1000 ∧ ss.length ≤ 1000 ∧ e = .returned (.tuple #[.slice (some ⟨g, 0, none⟩) m cp, .string ⟨ss.toArray⟩]) ∧ Own w' w.heap.size g m cp bs ∧ Below w.heap.size w w'


def GotStr (w : World) (e : Ending) (w' : World) : Prop :=
  ∃ (ss : List UInt8), ss.length ≤ 1000 ∧ e = .returned (.string ⟨ss.toArray⟩) ∧ Below w.heap.size w w'


end Go.Proofs.YtooiinicnkhlbaaDoor.draw
