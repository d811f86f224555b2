/- The program's statements: ParseOps. The laws' own helpers on pairs: what each call does. The laws' marks on pairs, and pairs that are the same. The laws' own helpers on orders: what each call does. Rows of whole numbers: small facts on worlds; no function of the program is named here. The laws' marks on orders and on rows of numbers, and orders that are the same. -/
import Derived.Test.YtefjbpkomphjdaaShae
import Derived.Test.YtefjbpkomphjdaaShab
import Derived.Test.YtefjbpkomphjdaaShaa
import Derived.OwnWalk
namespace Go.Proofs.Ytefjbpkomphjdaa.txts
open Go Go.RowKit Go.Proofs.Ytefjbpkomphjdaa.base Go.Proofs.Ytefjbpkomphjdaa.pairs Go.Proofs.Ytefjbpkomphjdaa.ords
set_option linter.unusedVariables false
set_option linter.unusedSimpArgs false

def nextS (t : Option Od) (r : Nat) : Option Od := match t with | none => none | some o => stepR o r
theorem sign_blank (u : ByteArray) (p : Nat) (hp : p < u.size) (h : (Utf8.decode u p).1 = 32) : (Utf8.decode u p).2 = 1 ∧ ∀ acc t, goE acc t (u.data.toList.drop p) = match t with | none => none | some o => goE (acc ++ [o]) (some init) (u.data.toList.drop (p + 1)) := by
  by_cases hb : u[p].toNat < 128
  · have hd := decode_ascii u p hp hb
    rw [hd] at h ⊢
    refine ⟨rfl, fun acc t => ?_⟩
    have e : u.data.toList[p]'(by simpa using hp) = 32 := UInt8.toNat_inj.1 h
    rw [List.drop_eq_getElem_cons (i := p) (by simpa using hp), goE_cons, if_pos e]
    cases t <;> rfl
  · have := (decode_high u p hp (by omega)).1
    omega
theorem sign_next (u : ByteArray) (p : Nat) (hp : p < u.size) (t : Option Od) (hf : Fit t) (acc : List Od) (h : ¬ (Utf8.decode u p).1 = 32) :
    goE acc (nextS t (Utf8.decode u p).1) (u.data.toList.drop (p + (Utf8.decode u p).2)) = goE acc t (u.data.toList.drop p) ∧ Fit (nextS t (Utf8.decode u p).1) ∧ p + (Utf8.decode u p).2 ≤ u.size := by
  by_cases hb : u[p].toNat < 128
  · have hd := decode_ascii u p hp hb
    rw [hd] at h ⊢
    simp only [] at h ⊢
    have hst : nextS t u[p].toNat = step t u[p] := by
      cases t with
      | none => rfl
      | some o => simp only [nextS, stepR]; rw [if_pos hb, UInt8.ofNat_toNat]
    rw [hst]
    refine ⟨?_, fit_step _ hf, by omega⟩
    have e : ¬ u.data.toList[p]'(by simpa using hp) = 32 := fun e => h (congrArg UInt8.toNat e)
    rw [List.drop_eq_getElem_cons (i := p) (by simpa using hp), goE_cons, if_neg e]
    rfl
  · obtain ⟨h1, h2, h3⟩ := decode_high u p hp (by omega)
    have hst : nextS t (Utf8.decode u p).1 = none := by
      cases t with
      | none => rfl
      | some o => simp only [nextS, stepR]; rw [if_neg (by omega)]
    rw [hst]
    refine ⟨?_, fit_none, h2⟩
    rw [goE_high (u.data.toList.drop p) _ acc t (Lib.width_pos u p) (by rw [List.length_drop, size_len]; omega) h3, List.drop_drop]
theorem ta_none (w : World) : (Instr.typeAssert (.iface 130 (.agg #[])) 61 59 true).run Try.prog w = .ok (.tuple #[.agg #[.int .i64 0, .string ⟨#[]⟩, .string ⟨#[]⟩], .bool false]) w := by kernel_rfl
theorem ta_order (z : Int) (x y : ByteArray) (w : World) : (Instr.typeAssert (.iface 59 (.agg #[.int .i64 z, .string x, .string y])) 61 59 true).run Try.prog w = .ok (.tuple #[.agg #[.int .i64 z, .string x, .string y], .bool true]) w := by kernel_rfl
theorem fit_small {o : Od} (h : Fit (some o)) : smallO o ∧ o.2.1.size ≤ 1099511627776 := by
  obtain ⟨h1, h2, h3⟩ := h o rfl
  exact ⟨⟨WalkArith.wf_i64 (by omega), by unfold maxLen; omega, by unfold maxLen; omega⟩, by omega⟩

set_option maxRecDepth 100000 in
set_option maxHeartbeats 4000000 in
theorem impl_parse (s : ByteArray) (w : World) (hs : s.size ≤ 1099511627776) :
    Calls Try.prog 13 #[.string s] w fun e w' => TPost w (parseOps s.data.toList) e w' := by
  obtain ⟨R, hR⟩ : ∃ R, goE [] (some init) (s.data.toList ++ [32]) = R := ⟨_, rfl⟩
  have HPR : Hid (parseOps s.data.toList = R.bind onlyOk) := by show _ = _; rw [← parse_go, go_goE, hR]
  obtain ⟨u, hu⟩ : ∃ u, u = s ++ (⟨#[32]⟩ : ByteArray) := ⟨_, rfl⟩
  have hul := app_list hu
  have hus : u.size = s.size + 1 := app_size hu
  have a0 := add_str s ⟨#[32]⟩ u hu (by show s.size + 1 ≤ _; omega)
  have HST : Hid (goE [] (some init) u.data.toList = R) := by show _ = _; rw [hul]; exact hR
  clear hu hR hul
  obtain ⟨i0, hif, hz0, hz1, hz2⟩ := info_parts infoO
  have hm1 := meth_none
  have hm2 := meth_order
  have hm3 := ta_none
  have hm4 := ta_order
  have hO0 := (ownO_made w w.heap.size (Nat.le_refl _)).below (w' := (w.alloc (.cells #[] 53)).iter u 0) ((Below.refl _ _).alloc (Nat.le_refl _) _)
  have hB0 : Below w.heap.size w ((w.alloc (.cells #[] 53)).iter u 0) := ((Below.refl _ _).alloc (Nat.le_refl _) _).alloc (by simp) _
  have hit0 := World.iter_heap (w.alloc (.cells #[] 53)) u 0
  rw [World.size_alloc] at hit0
  generalize hI : w.heap.size + 1 = I at *
  go_enter Try.func13, Try.ntmps13
  go_wp2_with fail
  go_loopg [4, 5] (u.size) (fun gf o t wx => ∃ (pos g n cp : Nat) (acc : List Od) (st : Option Od), o = .slice (some ⟨g, 0, none⟩) n cp ∧ t = spellV st ∧ wx.heap[I]? = some (.stringIter u pos) ∧ OwnO wx w.heap.size g n cp acc ∧ Below w.heap.size w wx ∧ Fit st ∧ goE acc st (u.data.toList.drop pos) = R ∧ u.size ≤ pos + gf ∧ n ≤ pos ∧ pos ≤ u.size ∧ (∀ p ∈ acc, p.2.1.size ≤ 1099511627776))
  case atStart => exact ⟨0, w.heap.size, 0, 0, [], some init, rfl, rfl, hit0, hO0, hB0, fit_init, HST.out, by omega, Nat.le_refl _, Nat.zero_le _, fun p hp => absurd hp List.not_mem_nil⟩
  case round =>
    obtain ⟨pos, g, n, cp, acc, st, rfl, rfl, hit, hO, hB, hf, hr, hfu, hn, hpu, hks⟩ := hrel
    clear HST hit0 hO0 hB0
    have HKS := Hid.mk' hks
    clear hks
    have hIl : I < wr.heap.size := (Array.getElem?_eq_some_iff.1 hit).1
    have hgI := iter_own hO hit
    by_cases hps : pos < u.size
    · obtain ⟨g', rfl⟩ : ∃ g', gk = g' + 1 := ⟨gk - 1, by omega⟩
      have hnx : ∀ ty, (Instr.next (.pointer (some ⟨I, 0, none⟩)) true ty).run Try.prog wr = _ := fun ty => Lib.run_next_any_at wr I u pos ty hit hps
      have hwd := Lib.width_pos u pos
      have hrl := Lib.rune_le u pos
      have hit2 := Lib.iterAt_heap wr I u pos (pos + (Utf8.decode u pos).2) hit
      have hG2 := grown_iter wr I u (pos + (Utf8.decode u pos).2)
      have hB2 := Lib.below_iterAt hB (k := I) (by omega) u (pos + (Utf8.decode u pos).2)
      have hO2 := hO.grown hG2 (by simpa using hgI)
      by_cases hbl : (Utf8.decode u pos).1 = 32
      · obtain ⟨hw1, hgo⟩ := sign_blank u pos hps hbl
        have hgo := hgo acc st
        rw [hr] at hgo
        rw [hbl] at hnx
        rw [hw1] at hnx hit2 hG2 hB2 hO2
        generalize wr.iterAt I u (pos + 1) = W at *
        have hIW : I < W.heap.size := (Array.getElem?_eq_some_iff.1 hit2).1
        clear hit hO hB hr hwd hrl hG2 hbl hw1
        have hbw := hB2.size
        have hfr : ((32 : Int) != 32) = false := rfl
        cases st with
        | none =>
          have HF : Hid (parseOps s.data.toList = none) := by show _ = _; rw [HPR.out, hgo]; rfl
          simp only [spellV]
          clear hgo hf hO2
          have hm := ownO_made (W.alloc (.cells #[.int .i64 0, .string ⟨#[]⟩, .string ⟨#[]⟩] 59)) w.heap.size (Nat.le_trans hbw (by simp))
          rw [World.size_alloc] at hm
          have hBf : Below w.heap.size w ((W.alloc (.cells #[.int .i64 0, .string ⟨#[]⟩, .string ⟨#[]⟩] 59)).alloc (.cells #[] 53)) := (hB2.alloc hbw _).alloc (Nat.le_trans hbw (by simp)) _
          go_wp2_with fail
          go_ret2
          exact tPost_none (r := parseOps s.data.toList) hm hBf HF.out
        | some o =>
          simp only [] at hgo
          have HN := Hid.mk' hgo.symm
          obtain ⟨hsm, hz⟩ := fit_small hf
          have HSM := Hid.mk' hsm
          have HZ := Hid.mk' hz
          simp only [spellV]
          clear hgo hf hsm hz
          have hbx : (W.alloc (.cells #[.int .i64 o.1, .string o.2.1, .string o.2.2] 59)).heap.size = W.heap.size + 1 := World.size_alloc _ _
          have hcl := one_ord_cells (W.alloc (.cells #[.int .i64 o.1, .string o.2.1, .string o.2.2] 59)) o 53
          rw [hbx] at hcl
          have HCL := Hid.mk' hcl
          have hba : Below W.heap.size W (W.alloc (.cells #[.int .i64 o.1, .string o.2.1, .string o.2.2] 59)) := (Below.refl _ _).alloc (Nat.le_refl _) _
          have hO4 := hO2.below hba
          have hB4 := hB2.trans (hba.mono hbw)
          have hbw4 := hB4.size
          have hc3 : n + 1 ≤ maxLen := by unfold maxLen; omega
          have hc4 : (n + 1) * 40 ≤ 140737488355328 := by omega
          clear hcl hbx hba hO2 hB2
          go_wp2_with (at_builtin; refine wpList_append_own _ rfl _ _ 24 rfl w.heap.size 53 i0 (.agg #[.int .i64 0, .string ⟨#[]⟩, .string ⟨#[]⟩]) 3 40 Try.underlying24 hif hz0 hz1 hz2 rfl (by decide) _ _ _ rfl (hO4.2.2.alloc _) ⟨W.heap.size + 1, 0, none⟩ 1 1 (ordVals [o]) rfl rfl HCL.out (ordVals_oneCell _) hc3 hc4 (le_alloc _ _ hbw4) ?_)
          intro v5 w5 hown hgrow hnn
          obtain ⟨g5, cp5, hv, hO5⟩ := ownO_app hO4.1 hO4.2.1 HSM.out hnn hown
          subst hv
          have hg5 : ((W.alloc (.cells #[.int .i64 o.1, .string o.2.1, .string o.2.2] 59)).alloc (.cells #[.int .i64 o.1, .string o.2.1, .string o.2.2] 53)).grownBy w5 (some g) := hgrow
          have hgl := hO4.lt
          have hB5 : Below w.heap.size w w5 := (hB4.alloc hbw4 _).grown hg5 (le_alloc _ _ hbw4) (fun k e => by cases e; exact hgl.1)
          have hit5 : w5.heap[I]? = some (.stringIter u (pos + 1)) := by
            rw [hg5.block I (by simp; omega) (by simpa using fun e => hgI e.symm), Below.heap_alloc _ _ I (by simp; omega), Below.heap_alloc _ _ I hIW]
            exact hit2
          have HO5 := Hid.mk' hO5
          have HT5 := Hid.mk' hit5
          clear hown hgrow hnn hO4 hO5 hB4 hg5 hgl hit5 hit2
          go_wp2_with fail
          go_roundg g'
          case measure => omega
          case rel =>
            refine ⟨pos + 1, g5, n + 1, cp5, acc ++ [o], some init, rfl, rfl, HT5.out, HO5.out, hB5, fit_init, HN.out, by omega, by omega, by omega, fun p hp => ?_⟩
            rcases List.mem_append.1 hp with h1 | h1
            · exact HKS.out p h1
            · rcases List.mem_singleton.1 h1 with rfl
              exact HZ.out
      · obtain ⟨hn1, hn2, hn3⟩ := sign_next u pos hps st hf acc hbl
        rw [hr] at hn1
        generalize (Utf8.decode u pos).1 = r at *
        generalize (Utf8.decode u pos).2 = K at *
        generalize wr.iterAt I u (pos + K) = W at *
        have hIW : I < W.heap.size := (Array.getElem?_eq_some_iff.1 hit2).1
        clear hit hO hB hr hG2
        have hbw := hB2.size
        have hfr : (((r : Nat) : Int) != 32) = true := by rw [bne_iff_ne]; omega
        have hfr2 : ¬ ((r : Nat) : Int) = 32 := by omega
        have HN1 := Hid.mk' hn1
        have HN2 := Hid.mk' hn2
        cases st with
        | none =>
          have HC := Hid.mk' (fun W => i_withNone r W)
          simp only [spellV]
          clear hn1 hn2 hf hbl
          go_wp2_with fail
          refine (HC.out _).mono ?_
          rintro e w5 ⟨rfl, hb5⟩
          have hO5 := hO2.below hb5
          have hB5 := hB2.trans (hb5.mono hbw)
          have hit5 := (hb5.block I hIW).trans hit2
          clear hO2 hB2 hb5 hit2
          go_wp2_with fail
          go_roundg g'
          case measure => omega
          case rel => exact ⟨pos + K, g, n, cp, acc, none, rfl, rfl, hit5, hO5, hB5, HN2.out, HN1.out, by omega, by omega, by omega, HKS.out⟩
        | some o =>
          obtain ⟨_, hk12, hv20⟩ := hf o rfl
          have HC := Hid.mk' (fun W => i_with o r W hrl hk12 hv20)
          have HN1 : Hid (goE acc (stepR o r) (u.data.toList.drop (pos + K)) = R) := HN1
          have HN2 : Hid (Fit (stepR o r)) := HN2
          generalize stepR o r = st' at *
          simp only [spellV]
          clear hn1 hn2 hf hbl hk12 hv20
          go_wp2_with fail
          refine (HC.out _).mono ?_
          rintro e w5 ⟨rfl, hb5⟩
          have hO5 := hO2.below hb5
          have hB5 := hB2.trans (hb5.mono hbw)
          have hit5 := (hb5.block I hIW).trans hit2
          clear hO2 hB2 hb5 hit2
          go_wp2_with fail
          go_roundg g'
          case measure => omega
          case rel => exact ⟨pos + K, g, n, cp, acc, st', rfl, rfl, hit5, hO5, hB5, HN2.out, HN1.out, by omega, by omega, by omega, HKS.out⟩
    · have hnx : ∀ ty, (Instr.next (.pointer (some ⟨I, 0, none⟩)) true ty).run Try.prog wr = _ := fun ty => Lib.run_next_end_at wr I u pos ty hit hps
      have HR : Hid (R = some acc) := by show _ = _; rw [← hr, List.drop_eq_nil_of_le (by rw [size_len]; omega), goE_nil]
      have HOK := impl_opsOk g 0 n cp acc wr hO.sl HKS.out
      clear hr hf hit
      cases hq : opsOk acc
      · rw [hq] at HOK
        have HOK := Hid.mk' HOK
        have HF : Hid (parseOps s.data.toList = none) := by show _ = _; rw [HPR.out, HR.out]; simp [onlyOk, hq]
        clear hq
        go_wp2_with fail
        refine HOK.out.mono ?_
        rintro e w2 ⟨rfl, hB2⟩
        have hB3 := hB.trans (hB2.mono hB.size)
        clear hB2 hB hO hnx
        go_wp2_with fail
        go_ret2
        exact tPost_none (r := parseOps s.data.toList) (ownO_made _ _ hB3.size) (hB3.alloc hB3.size _) HF.out
      · rw [hq] at HOK
        have HOK := Hid.mk' HOK
        have HF : Hid (parseOps s.data.toList = some acc) := by show _ = _; rw [HPR.out, HR.out]; simp [onlyOk, hq]
        clear hq
        go_wp2_with fail
        refine HOK.out.mono ?_
        rintro e w2 ⟨rfl, hB2⟩
        have hB3 := hB.trans (hB2.mono hB.size)
        have HO3 := Hid.mk' (hO.below hB2)
        clear hB2 hB hO hnx
        go_wp2_with fail
        go_ret2
        show TPost w (parseOps s.data.toList) _ _
        rw [HF.out]
        exact ⟨g, n, cp, rfl, HO3.out, hB3⟩

end Go.Proofs.Ytefjbpkomphjdaa.txts

namespace Go.Proofs.Ytefjbpkomphjdaa.pairs
open Go Go.RowKit Go.Proofs.Ytefjbpkomphjdaa.base Go.Proofs.Ytefjbpkomphjdaa.helps
set_option linter.unusedVariables false
set_option linter.unusedSimpArgs false

end Go.Proofs.Ytefjbpkomphjdaa.pairs

namespace Go.Proofs.Ytefjbpkomphjdaa.pairs
open Go Go.RowKit Go.Proofs.Ytefjbpkomphjdaa.base Go.Proofs.Ytefjbpkomphjdaa.helps
set_option linter.unusedVariables false
set_option linter.unusedSimpArgs false

end Go.Proofs.Ytefjbpkomphjdaa.pairs

namespace Go.Proofs.Ytefjbpkomphjdaa.ords
open Go Go.RowKit Go.Proofs.Ytefjbpkomphjdaa.base Go.Proofs.Ytefjbpkomphjdaa.helps Go.Proofs.Ytefjbpkomphjdaa.pairs
set_option linter.unusedVariables false
set_option linter.unusedSimpArgs false

theorem take_snocO (l : List Od) (k : Nat) (h : k < l.length) : l.take (k + 1) = l.take k ++ [l[k]] := List.take_succ_eq_append_getElem h
set_option maxHeartbeats 400000 in
theorem eqOp (p q : Od) (w : World) :
    Calls Try.prog 47 #[.agg #[.int .i64 p.1, .string p.2.1, .string p.2.2], .agg #[.int .i64 q.1, .string q.2.1, .string q.2.2]] w fun e w' => e = .returned (.bool (decide (p = q))) ∧ Below w.heap.size w w' := by
  have hB : Below w.heap.size w ((w.alloc (.cells #[.int .i64 p.1, .string p.2.1, .string p.2.2] 53)).alloc (.cells #[.int .i64 q.1, .string q.2.1, .string q.2.2] 53)) := ((Below.refl _ _).alloc (Nat.le_refl _) _).alloc (by simp) _
  obtain ⟨p0, p1, p2⟩ := p
  obtain ⟨q0, q1, q2⟩ := q
  by_cases e0 : p0 = q0
  · subst e0
    have h0 : (p0 == p0) = true := beq_self_eq_true _
    by_cases e1 : p1 = q1
    · subst e1
      by_cases e2 : p2 = q2
      · subst e2
        go_enter Try.func47, Try.ntmps47
        go_wp2
        go_ret
        exact ⟨ret_bool (by simp), hB⟩
      · have hq := str_ne e2
        have HE := Hid.mk' e2
        clear e2
        go_enter Try.func47, Try.ntmps47
        go_wp2
        go_ret
        exact ⟨ret_bool (by have := HE.out; simp [this]), hB⟩
    · have hq := str_ne e1
      have HE := Hid.mk' e1
      clear e1
      go_enter Try.func47, Try.ntmps47
      go_wp2
      go_ret
      exact ⟨ret_bool (by have := HE.out; simp [this]), hB⟩
  · have h0 : (p0 == q0) = false := beq_eq_false_iff_ne.2 e0
    have HE := Hid.mk' e0
    clear e0
    go_enter Try.func47, Try.ntmps47
    go_wp2
    go_ret
    exact ⟨ret_bool (by have := HE.out; simp [this]), hB⟩

theorem take_eqO {l l2 : List Od} {k : Nat} (h : l.take k = l2.take k) (h1 : k < l.length) (h2 : k < l2.length) (e : l[k] = l2[k]) : l.take (k + 1) = l2.take (k + 1) := by
  rw [take_snocO l k h1, take_snocO l2 k h2, h, e]
set_option maxRecDepth 100000 in
set_option maxHeartbeats 1000000 in
theorem eqOpS (a a2 : Option Addr) (len cap len2 cap2 : Nat) (l l2 : List Od) (w : World) (h : SlO w a len l) (h2 : SlO w a2 len2 l2) :
    Calls Try.prog 21 #[.slice a len cap, .slice a2 len2 cap2] w fun e w' => e = .returned (.bool (decide (l = l2))) ∧ Below w.heap.size w w' := by
  obtain ⟨hl, hm, _, hc⟩ := h
  obtain ⟨hl2, hm2, _, hc2⟩ := h2
  subst hl hl2
  unfold maxLen at hm hm2
  by_cases hne : l.length = l2.length
  · have hb : ((l.length : Int) == (l2.length : Int)) = true := by simp; omega
    go_enter Try.func21, Try.ntmps21
    go_wp2_with fail
    go_loopw [5] (fun i wr => ∃ k : Nat, k ≤ l.length ∧ i = .int .i64 k ∧ l.take k = l2.take k ∧ Below w.heap.size w wr) (fun i _ => l.length - (intOf i).toNat)
    case atStart => exact ⟨0, Nat.zero_le _, rfl, rfl, Below.refl _ _⟩
    case round =>
      obtain ⟨k, hk, rfl, htk, hB⟩ := hrel
      by_cases hlt : k < l.length
      · obtain ⟨b, off, ha, hcl⟩ := hc (by omega)
        obtain ⟨b2, off2, ha2, hcl2⟩ := hc2 (by omega)
        subst ha ha2
        have hlt2 : k < l2.length := by omega
        have hi1 : (k : Int) < (l.length : Int) := by omega
        have hi2 : (k : Int) < (l2.length : Int) := by omega
        have HT := Hid.mk' htk
        have hb1 : b < w.heap.size := World.block_lt_of_cell? w _ (hcl k hlt).1
        have hb2 : b2 < w.heap.size := World.block_lt_of_cell? w _ (hcl2 k hlt2).1
        have c0 := (hB.cell (p := ⟨b, off + k * 3, none⟩) hb1).trans (hcl k hlt).1
        have c1 := (hB.cell (p := ⟨b, off + k * 3 + 1, none⟩) hb1).trans (hcl k hlt).2.1
        have c2 := (hB.cell (p := ⟨b, off + k * 3 + 2, none⟩) hb1).trans (hcl k hlt).2.2
        have d0 := (hB.cell (p := ⟨b2, off2 + k * 3, none⟩) hb2).trans (hcl2 k hlt2).1
        have d1 := (hB.cell (p := ⟨b2, off2 + k * 3 + 1, none⟩) hb2).trans (hcl2 k hlt2).2.1
        have d2 := (hB.cell (p := ⟨b2, off2 + k * 3 + 2, none⟩) hb2).trans (hcl2 k hlt2).2.2
        have oc0 := last.On.cell (B := wr.heap.size) c0 (by have := hB.size; omega)
        have oc1 := last.On.cell (B := wr.heap.size) c1 (by have := hB.size; omega)
        have oc2 := last.On.cell (B := wr.heap.size) c2 (by have := hB.size; omega)
        have od0 := last.On.cell (B := wr.heap.size) d0 (by have := hB.size; omega)
        have od1 := last.On.cell (B := wr.heap.size) d1 (by have := hB.size; omega)
        have od2 := last.On.cell (B := wr.heap.size) d2 (by have := hB.size; omega)
        have hinh := last.On.inh wr.heap.size wr
        have hcall : ∀ x : last.On wr.heap.size wr, Calls Try.prog 47 #[.agg #[.int .i64 l[k].1, .string l[k].2.1, .string l[k].2.2], .agg #[.int .i64 l2[k].1, .string l2[k].2.1, .string l2[k].2.2]] x.w fun e w' => e = .returned (.bool (decide (l[k] = l2[k]))) ∧ ∃ y : last.On wr.heap.size wr, w' = y.w := fun x => last.Calls.on x (Nat.le_refl _) (eqOp l[k] l2[k] x.w)
        by_cases e : l[k] = l2[k]
        · rw [decide_eq_true e] at hcall
          have HE := Hid.mk' (take_eqO htk hlt hlt2 e)
          clear hcl hcl2 hc hc2 htk hne e
          generalize l[k] = p at *
          generalize l2[k] = q at *
          go_wp2_with fail
          refine last.wp_region_on wr.heap.size (by kernel_rfl) (by kernel_rfl) ?_
          repeat (go_big_quiet_step ((go_at_call 47; exact hcall _)))
          refine wpQuiet_nil ?_
          intro w5 hw5
          obtain ⟨x5, hw5⟩ := hw5
          subst hw5
          have hB5 : Below w.heap.size w x5.w := hB.trans (x5.2.mono hB.size)
          go_wp2_with fail
          go_roundw
          case rel => exact ⟨k + 1, by omega, by go_num, HE.out, hB5⟩
          case measure => simp [intOf]; omega
        · rw [decide_eq_false e] at hcall
          have HE : Hid (¬ l = l2) := by
            show ¬ _
            rintro rfl; exact e rfl
          clear hcl hcl2 hc hc2 htk hne e
          generalize l[k] = p at *
          generalize l2[k] = q at *
          go_wp2_with fail
          refine last.wp_region_on wr.heap.size (by kernel_rfl) (by kernel_rfl) ?_
          repeat (go_big_quiet_step ((go_at_call 47; exact hcall _)))
          refine wpQuiet_nil ?_
          intro w5 hw5
          obtain ⟨x5, hw5⟩ := hw5
          subst hw5
          have hB5 : Below w.heap.size w x5.w := hB.trans (x5.2.mono hB.size)
          go_wp2_with fail
          go_ret
          exact ⟨ret_bool (by symm; rw [decide_eq_false_iff_not]; exact HE.out), hB5⟩
      · have e : k = l.length := by omega
        have hfin : l = l2 := by
          subst e
          rw [List.take_of_length_le (Nat.le_refl _), List.take_of_length_le (by omega)] at htk
          exact htk
        have HF := Hid.mk' hfin
        clear hfin htk
        go_wp2_with fail
        go_ret
        exact ⟨ret_bool (by symm; rw [decide_eq_true_iff]; exact HF.out), hB⟩
  · have hb : ((l.length : Int) == (l2.length : Int)) = false := by simp; omega
    go_enter Try.func21, Try.ntmps21
    go_wp2
    go_ret
    exact ⟨ret_bool (by symm; rw [decide_eq_false_iff_not]; intro h; exact hne (by rw [h])), Below.refl _ _⟩

end Go.Proofs.Ytefjbpkomphjdaa.ords

namespace Go.Proofs.Ytefjbpkomphjdaa.ords
open Go Go.RowKit Go.Proofs.Ytefjbpkomphjdaa.base Go.Proofs.Ytefjbpkomphjdaa.pairs
set_option linter.unusedVariables false
set_option linter.unusedSimpArgs false

section
variable {w w' : World} {a : Option Addr} {b off len base base' g n cap : Nat} {zs : List Int} {row : Option Nat}
end
/-! ### a number put in order -/
end Go.Proofs.Ytefjbpkomphjdaa.ords

namespace Go.Proofs.Ytefjbpkomphjdaa.ords
open Go Go.RowKit Go.Proofs.Ytefjbpkomphjdaa.base Go.Proofs.Ytefjbpkomphjdaa.helps Go.Proofs.Ytefjbpkomphjdaa.pairs
set_option linter.unusedVariables false
set_option linter.unusedSimpArgs false

def marksO (k0 n : Nat) : List Od := (List.range n).map fun j => (((k0 + 3 * j : Nat) : Int), markBytes (k0 + 3 * j + 1), markBytes (k0 + 3 * j + 2))
def markOTo (l : List Od) (k0 i : Nat) : List Od := marksO k0 i ++ l.drop i
theorem marksO_length (k0 n : Nat) : (marksO k0 n).length = n := by simp [marksO]
theorem marksO_get (k0 n i : Nat) (h : i < n) : (marksO k0 n)[i]'(by rw [marksO_length]; exact h) = (((k0 + 3 * i : Nat) : Int), markBytes (k0 + 3 * i + 1), markBytes (k0 + 3 * i + 2)) := by simp [marksO]
theorem markOTo_length (l : List Od) (k0 i : Nat) (h : i ≤ l.length) : (markOTo l k0 i).length = l.length := by simp [markOTo, marksO]; omega
theorem markOTo_zero (l : List Od) (k0 : Nat) : markOTo l k0 0 = l := by simp [markOTo, marksO]
theorem markOTo_all (l : List Od) (k0 : Nat) : markOTo l k0 l.length = marksO k0 l.length := by simp [markOTo]
theorem markOTo_set (l : List Od) (k0 i : Nat) (h : i < l.length) : (markOTo l k0 i).set i (((k0 + 3 * i : Nat) : Int), markBytes (k0 + 3 * i + 1), markBytes (k0 + 3 * i + 2)) = markOTo l k0 (i + 1) := by
  unfold markOTo marksO
  rw [List.set_append_right _ _ (by simp)]
  simp only [List.length_map, List.length_range, Nat.sub_self, List.range_succ, List.map_append, List.map_cons, List.map_nil, List.append_assoc]
  congr 1
  rw [List.drop_eq_getElem_cons h]
  rfl

set_option maxRecDepth 100000 in
set_option maxHeartbeats 1000000 in
theorem markOpS (g len cap k0 base : Nat) (l : List Od) (w : World) (h : OwnO w base g len cap l) (hk1 : 1 ≤ k0) (hk0 : k0 + 3 * len ≤ 1099511627776) :
    Calls Try.prog 22 #[.slice (some ⟨g, 0, none⟩) len cap, .int .i64 (k0 : Nat)] w fun e w' => e = .returned (.int .i64 ((k0 + 3 * len : Nat) : Int)) ∧ OwnO w' base g len cap (marksO k0 len) ∧ w.grownBy w' (some g) := by
  have hl := h.1
  subst hl
  go_enter Try.func22, Try.ntmps22
  go_wp2_with fail
  go_loopw [1, 5] (fun kv i wr => ∃ k : Nat, k ≤ l.length ∧ i = .int .i64 k ∧ kv = .int .i64 ((k0 + 3 * k : Nat) : Int) ∧ OwnO wr base g l.length cap (markOTo l k0 k) ∧ w.grownBy wr (some g)) (fun _ i _ => l.length - (intOf i).toNat)
  case atStart => exact ⟨0, Nat.zero_le _, rfl, rfl, by rw [markOTo_zero]; exact h, World.grownBy.refl _ _⟩
  case round =>
    obtain ⟨k, hk, rfl, rfl, hO, hG⟩ := hrel
    by_cases hlt : k < l.length
    · have hlen : k < (markOTo l k0 k).length := by rw [markOTo_length l k0 k hk]; exact hlt
      have HS := Hid.mk' (markOTo_set l k0 k hlt)
      have hki : (k : Int) < (l.length : Int) := by omega
      have d0 := hO.kind k hlen
      have f0 := hO.frozen (k * 3)
      have R0 := hO.setKind k hlen ((k0 + 3 * k : Nat) : Int) (WalkArith.wf_i64 (by omega))
      have HR0 := Hid.mk' R0
      have hG0 := grownBy_trans hG R0.2
      clear R0 hO hG
      go_wp2_with fail
      refine (markTextI _ (k0 + 3 * k + 1) _ (by show _ = _; omega) (by omega) (by omega)).mono ?_
      rintro e w1 ⟨rfl, hB1⟩
      have hO1 := HR0.out.1.below hB1
      have hG1 := grown_below hG0 hB1
      have hlen1 : k < ((markOTo l k0 k).set k (((k0 + 3 * k : Nat) : Int), (markOTo l k0 k)[k].2)).length := by simpa using hlen
      have d1 := hO1.key k hlen1
      have f1 := hO1.frozen (k * 3 + 1)
      have R := hO1.setKey k hlen1 (markBytes (k0 + 3 * k + 1)) (mark_max _)
      simp only [List.getElem_set_self, List.set_set] at R
      have HR := Hid.mk' R
      have hG2 := grownBy_trans hG1 R.2
      clear R hO1 hG1 HR0 hG0 d0 f0
      go_wp2_with fail
      refine (markTextI _ (k0 + 3 * k + 2) _ (by show _ = _; omega) (by omega) (by omega)).mono ?_
      rintro e w2 ⟨rfl, hB2⟩
      have hO2 := HR.out.1.below hB2
      have hG3 := grown_below hG2 hB2
      have hlen2 : k < ((markOTo l k0 k).set k (((k0 + 3 * k : Nat) : Int), markBytes (k0 + 3 * k + 1), (markOTo l k0 k)[k].2.2)).length := by simpa using hlen
      have d2 := hO2.val k hlen2
      have f2 := hO2.frozen (k * 3 + 2)
      have R2 := hO2.setVal k hlen2 (markBytes (k0 + 3 * k + 2)) (mark_max _)
      simp only [List.getElem_set_self, List.set_set] at R2
      rw [HS.out] at R2
      have HR2 := Hid.mk' R2
      have hG4 := grownBy_trans hG3 R2.2
      clear R2 hO2 hG3 hG2 HR d1 f1
      go_wp2_with fail
      go_roundw
      case rel => exact ⟨k + 1, by omega, by go_num, by go_num, HR2.out.1, hG4⟩
      case measure => simp [intOf]; omega
    · go_wp2_with fail
      go_ret
      have e : k = l.length := by omega
      subst e
      rw [markOTo_all] at hO
      exact ⟨rfl, hO, hG⟩

set_option maxRecDepth 100000 in
set_option maxHeartbeats 1000000 in
theorem heldOpS (a : Option Addr) (len cap k0 : Nat) (w : World) (h : SlO w a len (marksO k0 len)) (hk1 : 1 ≤ k0) (hk0 : k0 + 3 * len ≤ 1099511627776) :
    Calls Try.prog 23 #[.slice a len cap, .int .i64 (k0 : Nat)] w fun e w' => e = .returned (.int .i64 ((k0 + 3 * len : Nat) : Int)) ∧ Below w.heap.size w w' := by
  obtain ⟨hl, hm, _, hc⟩ := h
  go_enter Try.func23, Try.ntmps23
  go_wp2_with fail
  go_loopw [1, 5] (fun kv i wr => ∃ k : Nat, k ≤ len ∧ i = .int .i64 k ∧ kv = .int .i64 ((k0 + 3 * k : Nat) : Int) ∧ Below w.heap.size w wr) (fun _ i _ => len - (intOf i).toNat)
  case atStart => exact ⟨0, Nat.zero_le _, rfl, rfl, Below.refl _ _⟩
  case round =>
    obtain ⟨k, hk, rfl, rfl, hB⟩ := hrel
    by_cases hlt : k < len
    · obtain ⟨b, off, ha, hcl⟩ := hc (by omega)
      subst ha
      have hkl : k < (marksO k0 len).length := by omega
      obtain ⟨d0, d1, d2⟩ := hcl k hkl
      rw [marksO_get k0 len k hlt] at d0 d1 d2
      have hbb : b < w.heap.size := World.block_lt_of_cell? w _ d1
      have c0 := (hB.cell (p := ⟨b, off + k * 3, none⟩) hbb).trans d0
      have c1 := (hB.cell (p := ⟨b, off + k * 3 + 1, none⟩) hbb).trans d1
      have c2 := (hB.cell (p := ⟨b, off + k * 3 + 2, none⟩) hbb).trans d2
      have hbw := hB.size
      have o1 := last.On.cell (B := wr.heap.size) c1 (by omega)
      have hinh := last.On.inh wr.heap.size wr
      have hki : (k : Int) < (len : Int) := by omega
      have hm1 : ∀ x : last.On wr.heap.size wr, Calls Try.prog 48 #[.int .i64 ((k0 : Int) + 3 * (k : Int) + 1)] x.w fun e w' => e = .returned (.string (markBytes (k0 + 3 * k + 1))) ∧ ∃ y : last.On wr.heap.size wr, w' = y.w := fun x => last.Calls.on x (Nat.le_refl _) (markTextI _ (k0 + 3 * k + 1) x.w (by show _ = _; omega) (by omega) (by omega))
      clear hcl hc d0 d1 d2 hkl
      generalize hM1 : markBytes (k0 + 3 * k + 1) = M1 at *
      generalize hM2 : markBytes (k0 + 3 * k + 2) = M2 at *
      have HM2 := Hid.mk' hM2
      clear hM1 hM2
      go_wp2_with fail
      refine last.wp_region_on wr.heap.size (by kernel_rfl) (by kernel_rfl) ?_
      repeat (go_big_quiet_step ((go_at_call 48; exact hm1 _)))
      refine wpQuiet_nil ?_
      intro w5 hw5
      obtain ⟨x5, hw5⟩ := hw5
      subst hw5
      have hB5 : Below w.heap.size w x5.w := hB.trans (x5.2.mono hB.size)
      have c2' : x5.w.cell? ⟨b, off + k * 3 + 2, none⟩ = some (.string M2) := (x5.2.cell (p := ⟨b, off + k * 3 + 2, none⟩) (by show b < _; omega)).trans c2
      generalize x5.w = w6 at *
      clear o1 hinh hm1 c0 c1 c2
      have hbw6 := hB5.size
      have o2 := last.On.cell (B := w6.heap.size) c2' (by omega)
      have hinh := last.On.inh w6.heap.size w6
      have hm2 : ∀ x : last.On w6.heap.size w6, Calls Try.prog 48 #[.int .i64 ((k0 : Int) + 3 * (k : Int) + 1 + 1)] x.w fun e w' => e = .returned (.string M2) ∧ ∃ y : last.On w6.heap.size w6, w' = y.w := fun x => last.Calls.on x (Nat.le_refl _) (by rw [← HM2.out]; exact markTextI _ (k0 + 3 * k + 2) x.w (by show _ = _; omega) (by omega) (by omega))
      clear HM2
      go_wp2_with fail
      refine last.wp_region_on w6.heap.size (by kernel_rfl) (by kernel_rfl) ?_
      repeat (go_big_quiet_step ((go_at_call 48; exact hm2 _)))
      refine wpQuiet_nil ?_
      intro w7 hw7
      obtain ⟨x7, hw7⟩ := hw7
      subst hw7
      have hB7 : Below w.heap.size w x7.w := hB5.trans (x7.2.mono hB5.size)
      go_wp2_with fail
      go_roundw
      case rel => exact ⟨k + 1, by omega, by go_num, by go_num, hB7⟩
      case measure => simp [intOf]; omega
    · go_wp2_with fail
      go_ret
      have e : k = len := by omega
      subst e
      exact ⟨rfl, hB⟩

/-! ### rows of numbers -/
theorem eqO (a a2 : Option Addr) (len cap len2 cap2 : Nat) (l l2 : List Od) (w : World) (h : SlO w a len l) (h2 : SlO w a2 len2 l2) (he : l = l2) :
    Calls Try.prog 21 #[.slice a len cap, .slice a2 len2 cap2] w fun e w' => e = .returned (.bool true) ∧ Below w.heap.size w w' := by
  refine (eqOpS a a2 len cap len2 cap2 l l2 w h h2).mono ?_
  rintro e w' ⟨rfl, hb⟩
  exact ⟨ret_bool (decide_eq_true he), hb⟩
theorem markO (g len cap base k0 : Nat) (l : List Od) (w : World) (h : OwnO w base g len cap l) (hk : len ≤ 274877906944) (hk0 : 1 ≤ k0) (hk2 : k0 ≤ 274877906944) (K : Int) (hK : Hid (K = (k0 : Int))) :
    Calls Try.prog 22 #[.slice (some ⟨g, 0, none⟩) len cap, .int .i64 K] w fun e w' => e = .returned (.int .i64 ((k0 : Int) + 3 * (len : Int))) ∧ OwnO w' base g len cap (marksO k0 len) ∧ w.grownBy w' (some g) := by
  have e := hK.out
  subst e
  refine (markOpS g len cap k0 base l w h hk0 (by omega)).mono ?_
  rintro e w' ⟨rfl, h1, h2⟩
  exact ⟨ret_int (by omega), h1, h2⟩
theorem heldO (a : Option Addr) (len cap : Nat) (w : World) (h : SlO w a len (marksO 1 len)) (hk : len ≤ 274877906944) :
    Calls Try.prog 23 #[.slice a len cap, .int .i64 1] w fun e w' => e = .returned (.int .i64 (1 + 3 * (len : Int))) ∧ Below w.heap.size w w' := by
  refine (show Calls Try.prog 23 #[.slice a len cap, .int .i64 ((1 : Nat) : Int)] w _ from heldOpS a len cap 1 w h (by omega) (by omega)).mono ?_
  rintro e w' ⟨rfl, hb⟩
  exact ⟨ret_int (by omega), hb⟩
end Go.Proofs.Ytefjbpkomphjdaa.ords
