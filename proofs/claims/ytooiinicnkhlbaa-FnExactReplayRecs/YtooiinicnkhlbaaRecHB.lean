/- The laws' helpers for records: alike, marked, held. -/
import Derived.Test.YtooiinicnkhlbaaRecHA
namespace Go.Proofs.Ytooiinicnkhlbaa.recs
open Go Go.RowKit Go.Proofs.Ytooiinicnkhlbaa.base Go.Proofs.Ytooiinicnkhlbaa.pairs Go.Proofs.Ytooiinicnkhlbaa.ords Go.Proofs.Ytooiinicnkhlbaa.helps
set_option linter.unusedVariables false
set_option linter.unusedSimpArgs false

set_option maxRecDepth 100000 in
set_option maxHeartbeats 2000000 in
theorem eqRecsT (a a2 : Option Addr) (len cap cap2 : Nat) (l : List Rc) (w : World) (h : SlR w a len l) (h2 : SlR w a2 len l) :
    Calls Try.prog 20 #[.slice a len cap, .slice a2 len cap2] w fun e w' => e = .returned (.bool true) ∧ Below w.heap.size w w' := by
  obtain ⟨hl, hm, hsm, hc⟩ := id h
  obtain ⟨_, _, _, hc2⟩ := id h2
  subst hl
  unfold maxLen at hm
  have hb : ((l.length : Int) == (l.length : Int)) = true := by simp
  go_enter Try.func20, Try.ntmps20
  go_wp2_with fail
  go_loopw [5] (fun i wr => ∃ k : Nat, k ≤ l.length ∧ i = .int .i64 k ∧ Below w.heap.size w wr) (fun i _ => l.length - (intOf i).toNat)
  case atStart => exact ⟨0, Nat.zero_le _, rfl, Below.refl _ _⟩
  case round =>
    obtain ⟨k, hk, rfl, hB⟩ := hrel
    by_cases hlt : k < l.length
    · obtain ⟨b, off, ha, hcl⟩ := hc (by omega)
      obtain ⟨b2, off2, ha2, hcl2⟩ := hc2 (by omega)
      subst ha ha2
      have hki : (k : Int) < (l.length : Int) := by omega
      have i1 := h.at k hlt
      have i2 := h2.at k hlt
      have hb1 : b < w.heap.size := World.block_lt_of_cell? w _ i1.1
      have hb2 : b2 < w.heap.size := World.block_lt_of_cell? w _ i2.1
      have hbs := hB.size
      obtain ⟨c1, c2, pa, pl, pc, c3, hS1, _⟩ := i1.below hB
      obtain ⟨c4, c5, qa, ql, qc, c6, hS2, _⟩ := i2.below hB
      have o1 := last.On.cell (B := wr.heap.size) c1 (by omega)
      have o2 := last.On.cell (B := wr.heap.size) c2 (by omega)
      have o3 := last.On.cell (B := wr.heap.size) c3 (by omega)
      have o4 := last.On.cell (B := wr.heap.size) c4 (by omega)
      have o5 := last.On.cell (B := wr.heap.size) c5 (by omega)
      have o6 := last.On.cell (B := wr.heap.size) c6 (by omega)
      have hinh := last.On.inh wr.heap.size wr
      have hcall : ∀ x : last.On wr.heap.size wr, Calls Try.prog 16 #[.agg #[.int .i64 l[k].1, .int .i64 l[k].2.1, .slice pa pl pc], .agg #[.int .i64 l[k].1, .int .i64 l[k].2.1, .slice qa ql qc]] x.w fun e w' => e = .returned (.bool true) ∧ ∃ y : last.On wr.heap.size wr, w' = y.w := fun x => last.Calls.on x (Nat.le_refl _) (eqRecT l[k].1 l[k].2.1 pa qa pl pc ql qc l[k].2.2 x.w (hS1.below x.2) (hS2.below x.2))
      clear hcl hcl2 hc hc2 i1 i2 hsm h h2 hS1 hS2
      generalize l[k] = p at *
      go_wp2_with fail
      refine last.wp_region_on wr.heap.size (by kernel_rfl) (by kernel_rfl) ?_
      repeat (go_big_quiet_step ((go_at_call 16; exact hcall _)))
      refine wpQuiet_nil ?_
      intro w5 hw5
      obtain ⟨x5, hw5⟩ := hw5
      subst hw5
      have hB5 : Below w.heap.size w x5.w := hB.trans (x5.2.mono hB.size)
      go_wp2_with fail
      go_roundw
      case rel => exact ⟨k + 1, by omega, by go_num, hB5⟩
      case measure => simp [intOf]; omega
    · go_wp2_with fail
      go_ret
      exact ⟨rfl, hB⟩

/-! ### marks -/
def cntR (l : List Rc) : Nat := (l.map fun x => 2 + 3 * x.2.2.length).sum
def markR : Nat → List Rc → List Rc
  | _, [] => []
  | k, x :: l => ((k : Int), ((k + 1 : Nat) : Int), marksO (k + 2) x.2.2.length) :: markR (k + 2 + 3 * x.2.2.length) l
theorem cntR_cons (x : Rc) (l : List Rc) : cntR (x :: l) = 2 + 3 * x.2.2.length + cntR l := by simp [cntR]
theorem cntR_append (a b : List Rc) : cntR (a ++ b) = cntR a + cntR b := by simp [cntR]
theorem cntR_take (l : List Rc) (i : Nat) (h : i < l.length) : cntR (l.take (i + 1)) = cntR (l.take i) + 2 + 3 * l[i].2.2.length := by
  rw [List.take_succ_eq_append_getElem h, cntR_append]; simp [cntR]; omega
theorem cntR_take_le (l : List Rc) (i : Nat) : cntR (l.take i) ≤ cntR l := by
  have : cntR l = cntR (l.take i) + cntR (l.drop i) := by rw [← cntR_append, List.take_append_drop]
  omega
theorem markR_length (k : Nat) (l : List Rc) : (markR k l).length = l.length := by
  induction l generalizing k with
  | nil => rfl
  | cons x l ih => simp [markR, ih]
theorem markR_append (k : Nat) (a b : List Rc) : markR k (a ++ b) = markR k a ++ markR (k + cntR a) b := by
  induction a generalizing k with
  | nil => simp [markR, cntR]
  | cons x a ih => simp only [List.cons_append, markR, ih, cntR_cons, Nat.add_assoc]
def markRTo (l : List Rc) (k i : Nat) : List Rc := markR k (l.take i) ++ l.drop i
theorem markRTo_zero (l : List Rc) (k : Nat) : markRTo l k 0 = l := by simp [markRTo, markR]
theorem markRTo_all (l : List Rc) (k : Nat) : markRTo l k l.length = markR k l := by simp [markRTo]
theorem markRTo_length (l : List Rc) (k i : Nat) (h : i ≤ l.length) : (markRTo l k i).length = l.length := by simp [markRTo, markR_length]; omega
theorem markRTo_at (l : List Rc) (k i : Nat) (h : i < l.length) : (markRTo l k i)[i]'(by rw [markRTo_length l k i (by omega)]; exact h) = l[i] := by
  unfold markRTo
  rw [List.getElem_append_right (by rw [markR_length, List.length_take]; exact Nat.min_le_left _ _)]
  simp [markR_length, Nat.min_eq_left (Nat.le_of_lt h)]
theorem markRTo_set (l : List Rc) (k i : Nat) (h : i < l.length) :
    (markRTo l k i).set i (((k + cntR (l.take i) : Nat) : Int), ((k + cntR (l.take i) + 1 : Nat) : Int), marksO (k + cntR (l.take i) + 2) l[i].2.2.length) = markRTo l k (i + 1) := by
  unfold markRTo
  rw [List.set_append_right _ _ (by rw [markR_length, List.length_take]; exact Nat.min_le_left _ _), markR_length, List.length_take, Nat.min_eq_left (Nat.le_of_lt h), Nat.sub_self, List.drop_eq_getElem_cons h, List.set_cons_zero,
    List.take_succ_eq_append_getElem h, markR_append, List.append_assoc]
  rfl
theorem markR_at (k : Nat) (l : List Rc) (i : Nat) (h : i < l.length) : (markR k l)[i]'(by rw [markR_length]; exact h) = (((k + cntR (l.take i) : Nat) : Int), ((k + cntR (l.take i) + 1 : Nat) : Int), marksO (k + cntR (l.take i) + 2) l[i].2.2.length) := by
  induction l generalizing k i with
  | nil => simp at h
  | cons x l ih =>
    cases i with
    | zero => simp [markR, cntR]
    | succ i =>
      simp only [markR, List.getElem_cons_succ, List.take_succ_cons, cntR_cons]
      rw [ih _ i (by simpa using h)]
      simp only [Nat.add_assoc]

/-- the orders of one record, written over where they lie (or nil) -/
theorem OwnR.setOpsV {w w' : World} {base : Nat} {v : Value} {l : List Rc} {hs : List Value} (h : OwnR w base v l hs) (i : Nat) (hi : i < l.length) (P : List Od) (hP : OwnV w' base (hs[i]'(by have := h.len; omega)) P) (hg : w.grownBy w' (hs[i]'(by have := h.len; omega)).ownBlock) :
    OwnR w' base v (l.set i (l[i].1, l[i].2.1, P)) hs := by
  cases hk : (hs[i]'(by have := h.len; omega)).ownBlock with
  | some k => rw [hk] at hg; exact h.setOps i hi P hP hk hg
  | none =>
    rw [hk] at hg
    have hsm := h.sm l[i] (List.getElem_mem hi)
    have h2 := h.of_blocks (w' := w') (fun k hb => hg.block k (h.lt k hb).2 (by simp))
    refine ⟨by simpa using h.len, mem_set_smallR h.sm ⟨hsm.1, hsm.2.1, hP.1⟩, ?_, fun j hj => ?_, h.apart, h.out⟩
    · rw [recVals_ops l hs i P h.len hi, List.length_set]; exact h2.row
    · have hjl : j < l.length := by simpa using hj
      by_cases e : i = j
      · subst e; rw [List.getElem_set_self]; exact hP
      · rw [List.getElem_set_ne e]; exact h2.ops j hjl
theorem KeepR.grownV {v : Value} {hs : List Value} {w w' w'' : World} {row : Option Nat} (h : KeepR v hs w w') (hg : w'.grownBy w'' row) (hk : ∀ k, row = some k → BlkR v hs k) : KeepR v hs w w'' :=
  ⟨hg.os.trans h.os, hg.tape.trans h.tape, hg.output.trans h.output, Nat.le_trans h.size hg.size, fun j hj hn => (hg.block j (Nat.lt_of_lt_of_le hj h.size) (fun e => hn (hk j e.symm))).trans (h.block j hj hn)⟩

set_option maxRecDepth 100000 in
set_option maxHeartbeats 2000000 in
theorem markRecS (v : Value) (base k0 : Nat) (l : List Rc) (hs : List Value) (w : World) (h : OwnR w base v l hs) (hb : base ≤ w.heap.size) (hk1 : 1 ≤ k0) (hk0 : k0 + cntR l ≤ 1099511627776) (hll : l.length ≤ 1099511627776) (K : Int) (hK : Hid (K = (k0 : Int))) :
    Calls Try.prog 21 #[v, .int .i64 K] w fun e w' => e = .returned (.int .i64 ((k0 + cntR l : Nat) : Int)) ∧ OwnR w' base v (markR k0 l) hs ∧ KeepR v hs w w' := by
  have eK := hK.out
  subst eK
  clear hK
  rcases h.shape with ⟨rfl, rfl, rfl⟩ | ⟨g, cap, rfl, hcap, hmx⟩
  · go_enter Try.func21, Try.ntmps21
    go_wp2_with fail
    refine wp_loop_rounds 1 ?_
    rw [rounds_succ]
    go_wp2_with fail
    go_ret
    exact ⟨rfl, h, KeepR.refl _ _ _⟩
  have hlen := h.len
  go_enter Try.func21, Try.ntmps21
  go_wp2_with fail
  go_loopw [1, 5] (fun kv i wr => ∃ k : Nat, k ≤ l.length ∧ i = .int .i64 k ∧ kv = .int .i64 ((k0 + cntR (l.take k) : Nat) : Int) ∧ OwnR wr base (.slice (some ⟨g, 0, none⟩) l.length cap) (markRTo l k0 k) hs ∧ KeepR (.slice (some ⟨g, 0, none⟩) l.length cap) hs w wr) (fun _ i _ => l.length - (intOf i).toNat)
  case atStart => exact ⟨0, Nat.zero_le _, rfl, rfl, by rw [markRTo_zero]; exact h, KeepR.refl _ _ _⟩
  case round =>
    obtain ⟨k, hk, rfl, rfl, hO, hB⟩ := hrel
    by_cases hlt : k < l.length
    · have hml := markRTo_length l k0 k hk
      have hlen2 : k < (markRTo l k0 k).length := by omega
      have hat : (markRTo l k0 k)[k]? = some l[k] := by rw [List.getElem?_eq_getElem hlen2, markRTo_at l k0 k hlt]
      have hset := markRTo_set l k0 k hlt
      have hct := cntR_take l k hlt
      have hcl := cntR_take_le l (k + 1)
      have hki : (k : Int) < (l.length : Int) := by omega
      obtain ⟨c, hc⟩ : ∃ c, k0 + cntR (l.take k) = c := ⟨_, rfl⟩
      have hnext : k0 + cntR (l.take (k + 1)) = c + 2 + 3 * l[k].2.2.length := by omega
      rw [hc] at hset
      have hc2 : c + 2 + 3 * l[k].2.2.length ≤ 1099511627776 := by omega
      have hc1 : 1 ≤ c := by omega
      obtain ⟨L, hL⟩ : ∃ L, markRTo l k0 k = L := ⟨_, rfl⟩
      rw [hL] at hO hat hset hlen2
      have hat : L[k] = l[k] := by rw [List.getElem?_eq_getElem hlen2] at hat; exact Option.some.inj hat
      have HN := Hid.mk' hnext
      have HS := Hid.mk' hset
      have hkh : k < hs.length := by omega
      have d1 := (hO.at k hlen2).1
      have f1 := hO.frozen (k * 3)
      have R := hO.setKind k hlen2 (c : Int) (WalkArith.wf_i64 (by omega))
      have hlen3 : k < (L.set k ((c : Int), L[k].2)).length := by simpa using hlen2
      have d2 := (R.1.at k hlen3).2.1
      have f2 := R.1.frozen (k * 3 + 1)
      have R2 := R.1.setTx k hlen3 ((c + 1 : Nat) : Int) (WalkArith.wf_i64 (by omega))
      simp only [List.getElem_set_self, List.set_set] at R2 d2
      have hlen4 : k < (L.set k ((c : Int), ((c + 1 : Nat) : Int), L[k].2.2)).length := by simpa using hlen2
      have d3 := (R2.1.at k hlen4).2.2
      have hPk := R2.1.ops k hlen4
      simp only [List.getElem_set_self] at hPk
      have hB2 := (hB.grown R.2 (.inl rfl)).grown R2.2 (.inl rfl)
      have hlk : L[k].2.2.length = l[k].2.2.length := by rw [hat]
      obtain ⟨y, hy⟩ : ∃ y, hs[k] = y := ⟨_, rfl⟩
      rw [hy] at hPk d3
      have HY := Hid.mk' hy
      have hsh := hPk.sl
      obtain ⟨ya, yc, hye, _⟩ := hsh
      have HMV : Hid (∀ K, Hid (K = ((c + 2 : Nat) : Int)) → Calls Try.prog 45 #[y, .int .i64 K] _ _) := fun K hK => markV y base (c + 2) L[k].2.2 _ hPk (by omega) (by omega) K hK
      have HR2 := Hid.mk' R2.1
      have HB2 := Hid.mk' hB2
      have e1 : ((c + 1 : Nat) : Int) = (c : Int) + 1 := by omega
      have HE1 := Hid.mk' e1
      rw [hc]
      rw [e1] at HMV HR2 HB2 d3
      subst hye
      have HLK := Hid.mk' hlk
      have hlen5 : k < (L.set k ((c : Int), (c : Int) + 1, L[k].2.2)).length := by simpa using hlen2
      clear hnext hset hct hcl hL hc hml hat hy R R2 hO hB hB2 hPk e1 hlk
      go_wp2_with fail
      refine (HMV.out _ (by show _ = _; omega)).mono ?_
      rintro e w3 ⟨rfl, hP3, hG3⟩
      have hO3 := HR2.out.setOpsV k hlen5 (marksO (c + 2) L[k].2.2.length) (by simp only [HY.out]; exact hP3) (by simp only [HY.out]; exact hG3)
      simp only [List.getElem_set_self, List.set_set] at hO3
      rw [← HE1.out, HLK.out, HS.out] at hO3
      have hB3 := HB2.out.grownV hG3 (fun j e => .inr ⟨hs[k], List.getElem_mem _, by rw [HY.out]; exact e⟩)
      have HO3 := Hid.mk' hO3
      have HV : Hid (((c + 2 + 3 * L[k].2.2.length : Nat) : Int) = ((k0 + cntR (l.take (k + 1)) : Nat) : Int)) := by show _ = _; rw [HN.out, HLK.out]
      rw [HV.out]
      clear hO3 hP3 hG3 HMV HR2 d1 d2 d3 f1 f2 HB2
      go_wp2_with fail
      go_roundw
      case rel => exact ⟨k + 1, by omega, by go_num, rfl, HO3.out, hB3⟩
      case measure => simp [intOf]; omega
    · have e : k = l.length := by omega
      subst e
      rw [markRTo_all] at hO
      have HO := Hid.mk' hO
      have HE : Hid (k0 + cntR (l.take l.length) = k0 + cntR l) := by show _ = _; rw [List.take_length]
      clear hO
      go_wp2_with fail
      go_ret
      exact ⟨ret_int (by rw [HE.out]), HO.out, hB⟩

set_option maxRecDepth 100000 in
set_option maxHeartbeats 2000000 in
theorem heldRecS (a : Option Addr) (len cap k0 : Nat) (l : List Rc) (w : World) (h : SlR w a len (markR k0 l)) (hk1 : 1 ≤ k0) (hk0 : k0 + cntR l ≤ 1099511627776) (hll : l.length ≤ 1099511627776) (K : Int) (hK : Hid (K = (k0 : Int))) :
    Calls Try.prog 24 #[.slice a len cap, .int .i64 K] w fun e w' => e = .returned (.int .i64 ((k0 + cntR l : Nat) : Int)) ∧ Below w.heap.size w w' := by
  have eK := hK.out
  subst eK
  clear hK
  have hl0 := h.1
  rw [markR_length] at hl0
  subst hl0
  have hc := h.2.2.2
  go_enter Try.func24, Try.ntmps24
  go_wp2_with fail
  go_loopw [1, 5] (fun kv i wr => ∃ k : Nat, k ≤ l.length ∧ i = .int .i64 k ∧ kv = .int .i64 ((k0 + cntR (l.take k) : Nat) : Int) ∧ Below w.heap.size w wr) (fun _ i _ => l.length - (intOf i).toNat)
  case atStart => exact ⟨0, Nat.zero_le _, rfl, rfl, Below.refl _ _⟩
  case round =>
    obtain ⟨k, hk, rfl, rfl, hB⟩ := hrel
    by_cases hlt : k < l.length
    · obtain ⟨b, off, ha⟩ : ∃ b off, a = some ⟨b, off, none⟩ := by
        obtain ⟨b, off, ha, _⟩ := hc (by omega)
        exact ⟨b, off, ha⟩
      subst ha
      have hkl : k < (markR k0 l).length := by rw [markR_length]; exact hlt
      have hit := (h.at k hkl).below hB
      rw [markR_at k0 l k hlt] at hit
      have hct := cntR_take l k hlt
      have hcl := cntR_take_le l (k + 1)
      have hki : (k : Int) < (l.length : Int) := by omega
      obtain ⟨c, hce⟩ : ∃ c, k0 + cntR (l.take k) = c := ⟨_, rfl⟩
      have hnext : k0 + cntR (l.take (k + 1)) = c + 2 + 3 * l[k].2.2.length := by omega
      rw [hce] at hit
      have hc2 : c + 2 + 3 * l[k].2.2.length ≤ 1099511627776 := by omega
      have hc1 : 1 ≤ c := by omega
      obtain ⟨c1, c2, pa, pl, pc, c3, hS, _⟩ := hit
      simp only [] at c1 c2 c3 hS
      rw [show ((c + 1 : Nat) : Int) = (c : Int) + 1 by omega] at c2
      have hpl := hS.1
      rw [marksO_length] at hpl
      rw [hpl] at hS hc2 hnext
      have HN := Hid.mk' hnext
      have HHO : Hid (∀ K, Hid (K = ((c + 2 : Nat) : Int)) → Calls Try.prog 47 #[.slice pa pl pc, .int .i64 K] wr fun e w' => e = .returned (.int .i64 ((c + 2 + 3 * pl : Nat) : Int)) ∧ Below wr.heap.size wr w') := fun K hK => by
        have e := hK.out
        subst e
        exact heldOpS pa pl pc (c + 2) wr hS (by omega) (by omega)
      rw [hce]
      clear hpl hnext hct hcl hS hkl hce h hc
      have hnn : ¬ ((c + 2 + 3 * pl : Nat) : Int) < 0 := by omega
      generalize hZ : c + 2 + 3 * pl = Z at *
      go_wp2_with fail
      refine (HHO.out _ (by show _ = _; omega)).mono ?_
      rintro e w9 ⟨rfl, hb9⟩
      have hB9 := hB.trans (hb9.mono hB.size)
      have HZN : Hid ((Z : Int) = ((k0 + cntR (l.take (k + 1)) : Nat) : Int)) := by show _ = _; rw [HN.out]
      clear HHO hb9 c1 c2 c3
      go_wp2_with fail
      go_roundw
      case rel => exact ⟨k + 1, by omega, by go_num, by rw [HZN.out], hB9⟩
      case measure => simp [intOf]; omega
    · have e : k = l.length := by omega
      subst e
      have HE : Hid (k0 + cntR (l.take l.length) = k0 + cntR l) := by show _ = _; rw [List.take_length]
      go_wp2_with fail
      go_ret
      exact ⟨ret_int (by rw [HE.out]), hB⟩
end Go.Proofs.Ytooiinicnkhlbaa.recs
