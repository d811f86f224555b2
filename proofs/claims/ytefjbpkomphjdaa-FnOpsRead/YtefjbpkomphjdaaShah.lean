/- The program's statements: orders of a text, sign by sign. The program's statements: ParseOps. The contracts of strings.Join and strings.ContainsFunc, as the library proves them, at this program (laid by the shelf's tools, then wip/shtpl.py). -/
import Derived.Test.YtefjbpkomphjdaaShag
import Derived.Test.YtefjbpkomphjdaaShaf
import Derived.Shelf.Strings.FuncGrows
import Derived.Deep.LoopGhost
import Derived.Shelf.Strings.Builder1
import Derived.Shelf.Strings.Builder2
import Derived.Shelf.Strings.OnBuilder
import Derived.Shelf.GgClosure.StringsIndexFunc
import Derived.Ground.GgwProg
import Derived.Shelf.GgClosure.StringsIndexFuncTop
import Derived.Test.YtefjbpkomphjdaaRows
namespace Go.Proofs.Ytefjbpkomphjdaa.txts
open Go Go.RowKit Go.Proofs.Ytefjbpkomphjdaa.base Go.Proofs.Ytefjbpkomphjdaa.pairs Go.Proofs.Ytefjbpkomphjdaa.ords
set_option linter.unusedVariables false
set_option linter.unusedSimpArgs false

/-! ### sign by sign, a blank behind each word -/
def goE : List Od → Option Od → List UInt8 → Option (List Od)
  | acc, _, [] => some acc
  | acc, t, c :: l => if c = 32 then (match t with | none => none | some o => goE (acc ++ [o]) (some init) l) else goE acc (step t c) l
theorem goE_nil (acc : List Od) (t : Option Od) : goE acc t [] = some acc := by cases t <;> rfl
theorem goE_cons (acc : List Od) (t : Option Od) (c : UInt8) (l : List UInt8) : goE acc t (c :: l) = if c = 32 then (match t with | none => none | some o => goE (acc ++ [o]) (some init) l) else goE acc (step t c) l := by cases t <;> rfl
theorem go_goE (l : List UInt8) (acc : List Od) (t : Option Od) : go acc t l = goE acc t (l ++ [32]) := by
  induction l generalizing acc t with
  | nil =>
    rw [go_nil, List.nil_append, goE_cons, if_pos rfl]
    cases t with
    | none => rfl
    | some o => exact (goE_nil _ _).symm
  | cons c l ih =>
    rw [go_cons, List.cons_append, goE_cons]
    by_cases h : c = 32
    · rw [if_pos h, if_pos h]
      cases t with
      | none => rfl
      | some o => exact ih _ _
    · rw [if_neg h, if_neg h]; exact ih _ _
theorem step_high (t : Option Od) (c : UInt8) (h : 128 ≤ c.toNat) : step t c = none := by
  cases t with
  | none => rfl
  | some o =>
    have h1 : ¬ c = 45 := fun e => by subst e; revert h; decide
    have h2 : ¬ c = 61 := fun e => by subst e; revert h; decide
    have h3 : ¬ c = 63 := fun e => by subst e; revert h; decide
    have h4 : ¬ keyCh c.toNat = true := by unfold keyCh; simp; omega
    simp only [step]
    rw [if_neg (fun e => h1 e.1), if_neg (fun e => h2 e.1), if_neg (fun e => h3 e.1), if_neg h4]
theorem goE_skip (l : List UInt8) (k : Nat) (acc : List Od) (hk : k ≤ l.length) (h : ∀ c ∈ l.take k, 128 ≤ c.toNat) : goE acc none l = goE acc none (l.drop k) := by
  induction k generalizing l with
  | zero => rfl
  | succ k ih =>
    cases l with
    | nil => rfl
    | cons c l =>
      have hc := h c (by simp)
      rw [goE_cons, if_neg (fun e => by subst e; revert hc; decide), step_high none c hc, List.drop_succ_cons]
      exact ih l (by simpa using hk) (fun d hd => h d (by simp; exact .inr hd))
theorem goE_high (l : List UInt8) (k : Nat) (acc : List Od) (t : Option Od) (h0 : 0 < k) (hk : k ≤ l.length) (h : ∀ c ∈ l.take k, 128 ≤ c.toNat) : goE acc t l = goE acc none (l.drop k) := by
  cases l with
  | nil => simp at hk; omega
  | cons c l =>
    obtain ⟨j, rfl⟩ : ∃ j, k = j + 1 := ⟨k - 1, by omega⟩
    have hc := h c (by simp)
    rw [goE_cons, if_neg (fun e => by subst e; revert hc; decide), step_high t c hc, List.drop_succ_cons]
    exact goE_skip l j acc (by simpa using hk) (fun d hd => h d (by simp; exact .inr hd))
theorem decode_high (u : ByteArray) (p : Nat) (hp : p < u.size) (hb : 128 ≤ u[p].toNat) :
    128 ≤ (Utf8.decode u p).1 ∧ p + (Utf8.decode u p).2 ≤ u.size ∧ ∀ c ∈ (u.data.toList.drop p).take (Utf8.decode u p).2, 128 ≤ c.toNat := by
  have hg : ∀ i (h : i < u.size), u.get! i = u[i] := fun i h => by simp [ByteArray.get!, getElem!_pos, h]; rfl
  have h0 : (u.get! (p + 0)).toNat = u[p].toNat := congrArg UInt8.toNat (hg p hp)
  have htake : ∀ k, p + k ≤ u.size → (∀ j, j < k → 128 ≤ (u.get! (p + j)).toNat) → ∀ c ∈ (u.data.toList.drop p).take k, 128 ≤ c.toNat := by
    intro k hk hj c hc
    obtain ⟨i, hi, e⟩ := List.getElem_of_mem hc
    simp only [List.length_take, List.length_drop] at hi
    have hik : i < k := by omega
    have := hj i hik
    rw [hg (p + i) (by omega)] at this
    rw [← e]
    simp only [List.getElem_take, List.getElem_drop]
    exact this
  have hb' : ¬ (u.get! (p + 0)).toNat < 128 := by rw [h0]; omega
  unfold Utf8.decode
  simp only [hb', if_false]
  have one : 128 ≤ Utf8.runeError ∧ p + 1 ≤ u.size ∧ ∀ c ∈ (u.data.toList.drop p).take 1, 128 ≤ c.toNat :=
    ⟨by decide, by omega, htake 1 (by omega) (fun j hj => by
      obtain rfl : j = 0 := by omega
      omega)⟩
  split
  · next h1 =>
    simp only [Bool.and_eq_true, decide_eq_true_eq, beq_iff_eq] at h1
    split
    · next h2 =>
      exact ⟨by omega, by omega, htake 2 (by omega) (fun j hj => by
        have : j = 0 ∨ j = 1 := by omega
        rcases this with rfl | rfl <;> omega)⟩
    · exact one
  · split
    · next h1 =>
      simp only [Bool.and_eq_true, decide_eq_true_eq, beq_iff_eq] at h1
      split
      · next h2 =>
        simp only [Bool.and_eq_true, decide_eq_true_eq] at h2
        exact ⟨by omega, by omega, htake 3 (by omega) (fun j hj => by
          have : j = 0 ∨ j = 1 ∨ j = 2 := by omega
          rcases this with rfl | rfl | rfl <;> omega)⟩
      · exact one
    · split
      · next h1 =>
        simp only [Bool.and_eq_true, decide_eq_true_eq, beq_iff_eq] at h1
        split
        · next h2 =>
          simp only [Bool.and_eq_true, decide_eq_true_eq] at h2
          exact ⟨by omega, by omega, htake 4 (by omega) (fun j hj => by
            have : j = 0 ∨ j = 1 ∨ j = 2 ∨ j = 3 := by omega
            rcases this with rfl | rfl | rfl | rfl <;> omega)⟩
        · exact one
      · exact one
def Fit (t : Option Od) : Prop := ∀ o, t = some o → (0 ≤ o.1 ∧ o.1 ≤ 3) ∧ o.2.1.size ≤ 12 ∧ o.2.2.size ≤ 20
theorem fit_init : Fit (some init) := fun o e => by cases e; exact ⟨by decide, by decide, by decide⟩
theorem fit_none : Fit none := fun o e => nomatch e
theorem fit_step {t : Option Od} (c : UInt8) (h : Fit t) : Fit (step t c) := by
  cases t with
  | none => exact fit_none
  | some o =>
    obtain ⟨h1, h2, h3⟩ := h o rfl
    simp only [step]
    intro p hp
    split at hp
    · cases hp; exact ⟨by simp, by show (⟨#[]⟩ : ByteArray).size ≤ 12; decide, by show (⟨#[]⟩ : ByteArray).size ≤ 20; decide⟩
    · split at hp
      · cases hp; exact ⟨by simp, h2, by show (⟨#[]⟩ : ByteArray).size ≤ 20; decide⟩
      · split at hp
        · cases hp; exact ⟨by simp, h2, by show (⟨#[]⟩ : ByteArray).size ≤ 20; decide⟩
        · split at hp
          · split at hp
            · split at hp
              · cases hp
              · next hn => cases hp; exact ⟨h1, h2, by rw [ba_size, List.length_append, size_len]; simp only [List.length_cons, List.length_nil]; omega⟩
            · split at hp
              · cases hp
              · next hn => cases hp; exact ⟨h1, by rw [ba_size, List.length_append, size_len]; simp only [List.length_cons, List.length_nil]; omega, h3⟩
          · cases hp
theorem grown_iter (w : World) (k : Nat) (s : ByteArray) (pos : Nat) : w.grownBy (w.iterAt k s pos) (some k) :=
  ⟨rfl, rfl, rfl, by rw [Lib.iterAt_size]; exact Nat.le_refl _, fun i hi hne => Lib.iterAt_other w k i s pos (fun e => hne (by rw [e]))⟩
theorem iter_own {w : World} {b g n c k pos : Nat} {l : List Od} {u : ByteArray} (h : OwnO w b g n c l) (h2 : w.heap[k]? = some (.stringIter u pos)) : g ≠ k := by
  rintro rfl
  rcases h.2.2.2 with ⟨h', _⟩ | ⟨g', cap', cur', h', _, hg, _⟩
  · simp at h'
  · simp only [Value.slice.injEq, Option.some.injEq, Addr.mk.injEq, and_true, true_and] at h'
    obtain ⟨rfl, rfl⟩ := h'
    rw [hg] at h2
    simp at h2
theorem meth_order (z : Int) (x y : ByteArray) (w : World) : (method 235 59 (.agg #[.int .i64 z, .string x, .string y]) "loop.example/g00244/impl.with").run Try.prog w = .ok (102, .agg #[.int .i64 z, .string x, .string y]) w := by kernel_rfl
theorem meth_none (w : World) : (method 235 130 (.agg #[]) "loop.example/g00244/impl.with").run Try.prog w = .ok (107, .agg #[]) w := by kernel_rfl

end Go.Proofs.Ytefjbpkomphjdaa.txts

namespace Go.Proofs.Ytefjbpkomphjdaa.txts
open Go Go.RowKit Go.Proofs.Ytefjbpkomphjdaa.base Go.Proofs.Ytefjbpkomphjdaa.pairs Go.Proofs.Ytefjbpkomphjdaa.ords
set_option linter.unusedVariables false
set_option linter.unusedSimpArgs false

def nextS (t : Option Od) (r : Nat) : Option Od := match t with | none => none | some o => stepR o r
theorem sign_blank (u : ByteArray) (p : Nat) (hp : p < u.size) (h : (Utf8.decode u p).1 = 32) : (Utf8.decode u p).2 = 1 ∧ ∀ acc t, goE acc t (u.data.toList.drop p) = match t with | none => none | some o => goE (acc ++ [o]) (some init) (u.data.toList.drop (p + 1)) := by
  by_cases hb : u[p].toNat < 128
  · have hd := decode_ascii u p hp hb
    rw [hd] at h ⊢
    refine ⟨rfl, fun acc t => ?_⟩
    have e : u.data.toList[p]'(by simpa using hp) = 32 := UInt8.toNat_inj.1 h
    rw [List.drop_eq_getElem_cons (i := p) (by simpa using hp), goE_cons, if_pos e]
    all_goals (cases t <;> rfl)
  · have := (decode_high u p hp (by omega)).1
    omega
theorem sign_next (u : ByteArray) (p : Nat) (hp : p < u.size) (t : Option Od) (hf : Fit t) (acc : List Od) (h : ¬ (Utf8.decode u p).1 = 32) :
    goE acc (nextS t (Utf8.decode u p).1) (u.data.toList.drop (p + (Utf8.decode u p).2)) = goE acc t (u.data.toList.drop p) ∧ Fit (nextS t (Utf8.decode u p).1) ∧ p + (Utf8.decode u p).2 ≤ u.size := by
  by_cases hb : u[p].toNat < 128
  · have hd := decode_ascii u p hp hb
    rw [hd] at h ⊢
    simp only [] at h ⊢
    have hst : nextS t u[p].toNat = step t u[p] := by
      cases t with
      | none => rfl
      | some o => simp only [nextS, stepR]; rw [if_pos hb, UInt8.ofNat_toNat]
    rw [hst]
    refine ⟨?_, fit_step _ hf, by omega⟩
    have e : ¬ u.data.toList[p]'(by simpa using hp) = 32 := fun e => h (congrArg UInt8.toNat e)
    rw [List.drop_eq_getElem_cons (i := p) (by simpa using hp), goE_cons, if_neg e]
    rfl
  · obtain ⟨h1, h2, h3⟩ := decode_high u p hp (by omega)
    have hst : nextS t (Utf8.decode u p).1 = none := by
      cases t with
      | none => rfl
      | some o => simp only [nextS, stepR]; rw [if_neg (by omega)]
    rw [hst]
    refine ⟨?_, fit_none, h2⟩
    rw [goE_high (u.data.toList.drop p) _ acc t (Lib.width_pos u p) (by rw [List.length_drop, size_len]; omega) h3, List.drop_drop]
theorem ta_none (w : World) : (Instr.typeAssert (.iface 130 (.agg #[])) 61 59 true).run Try.prog w = .ok (.tuple #[.agg #[.int .i64 0, .string ⟨#[]⟩, .string ⟨#[]⟩], .bool false]) w := by kernel_rfl
theorem ta_order (z : Int) (x y : ByteArray) (w : World) : (Instr.typeAssert (.iface 59 (.agg #[.int .i64 z, .string x, .string y])) 61 59 true).run Try.prog w = .ok (.tuple #[.agg #[.int .i64 z, .string x, .string y], .bool true]) w := by kernel_rfl
theorem fit_small {o : Od} (h : Fit (some o)) : smallO o ∧ o.2.1.size ≤ 1099511627776 := by
  obtain ⟨h1, h2, h3⟩ := h o rfl
  exact ⟨⟨WalkArith.wf_i64 (by omega), by unfold maxLen; omega, by unfold maxLen; omega⟩, by omega⟩

set_option maxRecDepth 100000 in
set_option maxHeartbeats 4000000 in
theorem impl_parse (s : ByteArray) (w : World) (hs : s.size ≤ 1099511627776) :
    Calls Try.prog 13 #[.string s] w fun e w' => TPost w (parseOps s.data.toList) e w' := by
  obtain ⟨R, hR⟩ : ∃ R, goE [] (some init) (s.data.toList ++ [32]) = R := ⟨_, rfl⟩
  have HPR : Hid (parseOps s.data.toList = R.bind onlyOk) := by show _ = _; rw [← parse_go, go_goE, hR]
  obtain ⟨u, hu⟩ : ∃ u, u = s ++ (⟨#[32]⟩ : ByteArray) := ⟨_, rfl⟩
  have hul := app_list hu
  have hus : u.size = s.size + 1 := app_size hu
  have a0 := add_str s ⟨#[32]⟩ u hu (by show s.size + 1 ≤ _; omega)
  have HST : Hid (goE [] (some init) u.data.toList = R) := by show _ = _; rw [hul]; exact hR
  clear hu hR hul
  obtain ⟨i0, hif, hz0, hz1, hz2⟩ := info_parts infoO
  have hm1 := meth_none
  have hm2 := meth_order
  have hm3 := ta_none
  have hm4 := ta_order
  have hO0 := (ownO_made w w.heap.size (Nat.le_refl _)).below (w' := (w.alloc (.cells #[] 53)).iter u 0) ((Below.refl _ _).alloc (Nat.le_refl _) _)
  have hB0 : Below w.heap.size w ((w.alloc (.cells #[] 53)).iter u 0) := ((Below.refl _ _).alloc (Nat.le_refl _) _).alloc (by simp) _
  have hit0 := World.iter_heap (w.alloc (.cells #[] 53)) u 0
  rw [World.size_alloc] at hit0
  generalize hI : w.heap.size + 1 = I at *
  go_enter Try.func13, Try.ntmps13
  go_wp2_with fail
  go_loopg [4, 5] (u.size) (fun gf o t wx => ∃ (pos g n cp : Nat) (acc : List Od) (st : Option Od), o = .slice (some ⟨g, 0, none⟩) n cp ∧ t = spellV st ∧ wx.heap[I]? = some (.stringIter u pos) ∧ OwnO wx w.heap.size g n cp acc ∧ Below w.heap.size w wx ∧ Fit st ∧ goE acc st (u.data.toList.drop pos) = R ∧ u.size ≤ pos + gf ∧ n ≤ pos ∧ pos ≤ u.size ∧ (∀ p ∈ acc, p.2.1.size ≤ 1099511627776))
  case atStart => exact ⟨0, w.heap.size, 0, 0, [], some init, rfl, rfl, hit0, hO0, hB0, fit_init, HST.out, by omega, Nat.le_refl _, Nat.zero_le _, fun p hp => absurd hp List.not_mem_nil⟩
  case round =>
    obtain ⟨pos, g, n, cp, acc, st, rfl, rfl, hit, hO, hB, hf, hr, hfu, hn, hpu, hks⟩ := hrel
    clear HST hit0 hO0 hB0
    have HKS := Hid.mk' hks
    clear hks
    have hIl : I < wr.heap.size := (Array.getElem?_eq_some_iff.1 hit).1
    have hgI := iter_own hO hit
    by_cases hps : pos < u.size
    · obtain ⟨g', rfl⟩ : ∃ g', gk = g' + 1 := ⟨gk - 1, by omega⟩
      have hnx : ∀ ty, (Instr.next (.pointer (some ⟨I, 0, none⟩)) true ty).run Try.prog wr = _ := fun ty => Lib.run_next_any_at wr I u pos ty hit hps
      have hwd := Lib.width_pos u pos
      have hrl := Lib.rune_le u pos
      have hit2 := Lib.iterAt_heap wr I u pos (pos + (Utf8.decode u pos).2) hit
      have hG2 := grown_iter wr I u (pos + (Utf8.decode u pos).2)
      have hB2 := Lib.below_iterAt hB (k := I) (by omega) u (pos + (Utf8.decode u pos).2)
      have hO2 := hO.grown hG2 (by simpa using hgI)
      by_cases hbl : (Utf8.decode u pos).1 = 32
      · obtain ⟨hw1, hgo⟩ := sign_blank u pos hps hbl
        have hgo := hgo acc st
        rw [hr] at hgo
        rw [hbl] at hnx
        rw [hw1] at hnx hit2 hG2 hB2 hO2
        generalize wr.iterAt I u (pos + 1) = W at *
        have hIW : I < W.heap.size := (Array.getElem?_eq_some_iff.1 hit2).1
        clear hit hO hB hr hwd hrl hG2 hbl hw1
        have hbw := hB2.size
        have hfr : ((32 : Int) != 32) = false := rfl
        cases st with
        | none =>
          have HF : Hid (parseOps s.data.toList = none) := by show _ = _; rw [HPR.out, hgo]; rfl
          simp only [spellV]
          clear hgo hf hO2
          have hm := ownO_made (W.alloc (.cells #[.int .i64 0, .string ⟨#[]⟩, .string ⟨#[]⟩] 59)) w.heap.size (Nat.le_trans hbw (by simp))
          rw [World.size_alloc] at hm
          have hBf : Below w.heap.size w ((W.alloc (.cells #[.int .i64 0, .string ⟨#[]⟩, .string ⟨#[]⟩] 59)).alloc (.cells #[] 53)) := (hB2.alloc hbw _).alloc (Nat.le_trans hbw (by simp)) _
          go_wp2_with fail
          go_ret2
          exact tPost_none (r := parseOps s.data.toList) hm hBf HF.out
        | some o =>
          simp only [] at hgo
          have HN := Hid.mk' hgo.symm
          obtain ⟨hsm, hz⟩ := fit_small hf
          have HSM := Hid.mk' hsm
          have HZ := Hid.mk' hz
          simp only [spellV]
          clear hgo hf hsm hz
          have hbx : (W.alloc (.cells #[.int .i64 o.1, .string o.2.1, .string o.2.2] 59)).heap.size = W.heap.size + 1 := World.size_alloc _ _
          have hcl := one_ord_cells (W.alloc (.cells #[.int .i64 o.1, .string o.2.1, .string o.2.2] 59)) o 53
          rw [hbx] at hcl
          have HCL := Hid.mk' hcl
          have hba : Below W.heap.size W (W.alloc (.cells #[.int .i64 o.1, .string o.2.1, .string o.2.2] 59)) := (Below.refl _ _).alloc (Nat.le_refl _) _
          have hO4 := hO2.below hba
          have hB4 := hB2.trans (hba.mono hbw)
          have hbw4 := hB4.size
          have hc3 : n + 1 ≤ maxLen := by unfold maxLen; omega
          have hc4 : (n + 1) * 40 ≤ 140737488355328 := by omega
          clear hcl hbx hba hO2 hB2
          go_wp2_with (at_builtin; refine wpList_append_own _ rfl _ _ 24 rfl w.heap.size 53 i0 (.agg #[.int .i64 0, .string ⟨#[]⟩, .string ⟨#[]⟩]) 3 40 Try.underlying24 hif hz0 hz1 hz2 rfl (by decide) _ _ _ rfl (hO4.2.2.alloc _) ⟨W.heap.size + 1, 0, none⟩ 1 1 (ordVals [o]) rfl rfl HCL.out (ordVals_oneCell _) hc3 hc4 (le_alloc _ _ hbw4) ?_)
          intro v5 w5 hown hgrow hnn
          obtain ⟨g5, cp5, hv, hO5⟩ := ownO_app hO4.1 hO4.2.1 HSM.out hnn hown
          subst hv
          have hg5 : ((W.alloc (.cells #[.int .i64 o.1, .string o.2.1, .string o.2.2] 59)).alloc (.cells #[.int .i64 o.1, .string o.2.1, .string o.2.2] 53)).grownBy w5 (some g) := hgrow
          have hgl := hO4.lt
          have hB5 : Below w.heap.size w w5 := (hB4.alloc hbw4 _).grown hg5 (le_alloc _ _ hbw4) (fun k e => by cases e; exact hgl.1)
          have hit5 : w5.heap[I]? = some (.stringIter u (pos + 1)) := by
            rw [hg5.block I (by simp; omega) (by simpa using fun e => hgI e.symm), Below.heap_alloc _ _ I (by simp; omega), Below.heap_alloc _ _ I hIW]
            exact hit2
          have HO5 := Hid.mk' hO5
          have HT5 := Hid.mk' hit5
          clear hown hgrow hnn hO4 hO5 hB4 hg5 hgl hit5 hit2
          go_wp2_with fail
          go_roundg g'
          case measure => omega
          case rel =>
            refine ⟨pos + 1, g5, n + 1, cp5, acc ++ [o], some init, rfl, rfl, HT5.out, HO5.out, hB5, fit_init, HN.out, by omega, by omega, by omega, fun p hp => ?_⟩
            rcases List.mem_append.1 hp with h1 | h1
            · exact HKS.out p h1
            · rcases List.mem_singleton.1 h1 with rfl
              exact HZ.out
      · obtain ⟨hn1, hn2, hn3⟩ := sign_next u pos hps st hf acc hbl
        rw [hr] at hn1
        generalize (Utf8.decode u pos).1 = r at *
        generalize (Utf8.decode u pos).2 = K at *
        generalize wr.iterAt I u (pos + K) = W at *
        have hIW : I < W.heap.size := (Array.getElem?_eq_some_iff.1 hit2).1
        clear hit hO hB hr hG2
        have hbw := hB2.size
        have hfr : (((r : Nat) : Int) != 32) = true := by rw [bne_iff_ne]; omega
        have hfr2 : ¬ ((r : Nat) : Int) = 32 := by omega
        have HN1 := Hid.mk' hn1
        have HN2 := Hid.mk' hn2
        cases st with
        | none =>
          have HC := Hid.mk' (fun W => i_withNone r W)
          simp only [spellV]
          clear hn1 hn2 hf hbl
          go_wp2_with fail
          refine (HC.out _).mono ?_
          rintro e w5 ⟨rfl, hb5⟩
          have hO5 := hO2.below hb5
          have hB5 := hB2.trans (hb5.mono hbw)
          have hit5 := (hb5.block I hIW).trans hit2
          clear hO2 hB2 hb5 hit2
          go_wp2_with fail
          go_roundg g'
          case measure => omega
          case rel => exact ⟨pos + K, g, n, cp, acc, none, rfl, rfl, hit5, hO5, hB5, HN2.out, HN1.out, by omega, by omega, by omega, HKS.out⟩
        | some o =>
          obtain ⟨_, hk12, hv20⟩ := hf o rfl
          have HC := Hid.mk' (fun W => i_with o r W hrl hk12 hv20)
          have HN1 : Hid (goE acc (stepR o r) (u.data.toList.drop (pos + K)) = R) := HN1
          have HN2 : Hid (Fit (stepR o r)) := HN2
          generalize stepR o r = st' at *
          simp only [spellV]
          clear hn1 hn2 hf hbl hk12 hv20
          go_wp2_with fail
          refine (HC.out _).mono ?_
          rintro e w5 ⟨rfl, hb5⟩
          have hO5 := hO2.below hb5
          have hB5 := hB2.trans (hb5.mono hbw)
          have hit5 := (hb5.block I hIW).trans hit2
          clear hO2 hB2 hb5 hit2
          go_wp2_with fail
          go_roundg g'
          case measure => omega
          case rel => exact ⟨pos + K, g, n, cp, acc, st', rfl, rfl, hit5, hO5, hB5, HN2.out, HN1.out, by omega, by omega, by omega, HKS.out⟩
    · have hnx : ∀ ty, (Instr.next (.pointer (some ⟨I, 0, none⟩)) true ty).run Try.prog wr = _ := fun ty => Lib.run_next_end_at wr I u pos ty hit hps
      have HR : Hid (R = some acc) := by show _ = _; rw [← hr, List.drop_eq_nil_of_le (by rw [size_len]; omega), goE_nil]
      have HOK := impl_opsOk g 0 n cp acc wr hO.sl HKS.out
      clear hr hf hit
      cases hq : opsOk acc
      · rw [hq] at HOK
        have HOK := Hid.mk' HOK
        have HF : Hid (parseOps s.data.toList = none) := by show _ = _; rw [HPR.out, HR.out]; simp [onlyOk, hq]
        clear hq
        go_wp2_with fail
        refine HOK.out.mono ?_
        rintro e w2 ⟨rfl, hB2⟩
        have hB3 := hB.trans (hB2.mono hB.size)
        clear hB2 hB hO hnx
        go_wp2_with fail
        go_ret2
        exact tPost_none (r := parseOps s.data.toList) (ownO_made _ _ hB3.size) (hB3.alloc hB3.size _) HF.out
      · rw [hq] at HOK
        have HOK := Hid.mk' HOK
        have HF : Hid (parseOps s.data.toList = some acc) := by show _ = _; rw [HPR.out, HR.out]; simp [onlyOk, hq]
        clear hq
        go_wp2_with fail
        refine HOK.out.mono ?_
        rintro e w2 ⟨rfl, hB2⟩
        have hB3 := hB.trans (hB2.mono hB.size)
        have HO3 := Hid.mk' (hO.below hB2)
        clear hB2 hB hO hnx
        go_wp2_with fail
        go_ret2
        show TPost w (parseOps s.data.toList) _ _
        rw [HF.out]
        exact ⟨g, n, cp, rfl, HO3.out, hB3⟩

end Go.Proofs.Ytefjbpkomphjdaa.txts

namespace Go.Proofs.Ytefjbpkomphjdaa.txsh
open Go Go.Proofs Go.Shelf
def lays156_ren : Go.Shelf.Ren := ⟨fun | 156 => 60 | 165 => 74 | 166 => 75 | 169 => 76 | 240 => 80 | 241 => 81 | 276 => 82 | 277 => 83 | n => n, fun | 31 => 66 | 9 => 9 | 3 => 3 | 4 => 4 | 0 => 0 | 20 => 20 | 72 => 102 | 76 => 106 | 70 => 100 | 37 => 22 | 75 => 105 | 127 => 111 | 164 => 112 | 5 => 5 | 80 => 58 | n => n, fun | n => n⟩
theorem lays156 : Go.Proofs.Lays.n156 Try.prog lays156_ren := {
  mixed := by kernel_rfl
  f156 := Try.func60.trans (congrArg some (by kernel_rfl))
  f165 := Try.func74.trans (congrArg some (by kernel_rfl))
  f166 := Try.func75.trans (congrArg some (by kernel_rfl))
  f169 := Try.func76.trans (congrArg some (by kernel_rfl))
  f240 := Try.func80.trans (congrArg some (by kernel_rfl))
  f241 := Try.func81.trans (congrArg some (by kernel_rfl))
  f276 := Try.func82.trans (congrArg some (by kernel_rfl))
  f277 := Try.func83.trans (congrArg some (by kernel_rfl))
  t0 := Try.underlying0
  a0 := Try.isAgg0
  z0 := Try.sizeOf0
  v0 := Try.zeroValue0
  t3 := Try.underlying3
  a3 := Try.isAgg3
  z3 := Try.sizeOf3
  v3 := Try.zeroValue3
  t4 := Try.underlying4
  a4 := Try.isAgg4
  z4 := Try.sizeOf4
  v4 := Try.zeroValue4
  t9 := Try.underlying9
  a9 := Try.isAgg9
  z9 := Try.sizeOf9
  v9 := Try.zeroValue9
  t20 := Try.underlying20
  a20 := Try.isAgg20
  z20 := Try.sizeOf20
  v20 := Try.zeroValue20
  t31 := Try.underlying66
  a31 := Try.isAgg66
  z31 := Try.sizeOf66
  v31 := Try.zeroValue66
  t37 := Try.underlying22
  a37 := Try.isAgg22
  z37 := Try.sizeOf22
  v37 := Try.zeroValue22
  t70 := Try.underlying100
  a70 := Try.isAgg100
  z70 := Try.sizeOf100
  v70 := Try.zeroValue100
  t72 := Try.underlying102
  a72 := Try.isAgg102
  z72 := Try.sizeOf102
  v72 := Try.zeroValue102
  t75 := Try.underlying105
  a75 := Try.isAgg105
  z75 := Try.sizeOf105
  v75 := Try.zeroValue105
  t76 := Try.underlying106
  a76 := Try.isAgg106
  z76 := Try.sizeOf106
  v76 := Try.zeroValue106
  t127 := Try.underlying111
  a127 := Try.isAgg111
  z127 := Try.sizeOf111
  v127 := Try.zeroValue111
  t164 := Try.underlying112
  a164 := Try.isAgg112
  z164 := Try.sizeOf112
  v164 := Try.zeroValue112 }
theorem Builder_Extra_156 : Builder.Extra Try.prog lays156_ren := {
  sizeBuilder := by kernel_rfl
  liesBuilder := by kernel_rfl
  t5 := Try.underlying5
  a5 := Try.isAgg5
  z5 := Try.sizeOf5
  v5 := Try.zeroValue5
  infoByte := by kernel_rfl
  cellsByte := by kernel_rfl
  sizeByte := by kernel_rfl
  neB5 := by decide }
open Go.RowKit in
theorem strings_Join (bk o c : Nat) (xs : List ByteArray) (sep : ByteArray) (w : World) (hcells : ∀ (j : Nat) x, xs[j]? = some x → w.cell? ⟨bk, o + j, none⟩ = some (.string x)) (hbk : bk < w.heap.size) (hN : xs.length ≤ 140737488355328) (hcap : xs.length ≤ c) (hlen : (Lib.join (xs.map (·.data.toList)) sep.data.toList).length ≤ 140737488355328) :
    Calls Try.prog 60 #[.slice (some ⟨bk, o, none⟩) xs.length c, .string sep] w fun e w' => e = .returned (.string ⟨(Lib.join (xs.map (·.data.toList)) sep.data.toList).toArray⟩) ∧ Below w.heap.size w w' := Any.strings_Join lays156 Builder_Extra_156 bk o c xs sep w hcells hbk hN hcap hlen
def laysGw17_ren : Go.Shelf.Ren := ⟨fun | 17 => 57 | 15 => 72 | 20 => 79 | n => n, fun | 9 => 9 | 23 => 89 | 4 => 4 | 3 => 3 | 0 => 0 | 21 => 21 | n => n, fun | n => n⟩
theorem laysGw17 : Go.Proofs.LaysGw.n17 Try.prog laysGw17_ren := {
  mixed := by kernel_rfl
  f15 := Try.func72.trans (congrArg some (by kernel_rfl))
  f17 := Try.func57.trans (congrArg some (by kernel_rfl))
  f20 := Try.func79.trans (congrArg some (by kernel_rfl))
  t0 := Try.underlying0
  a0 := Try.isAgg0
  z0 := Try.sizeOf0
  v0 := Try.zeroValue0
  i0 := by kernel_rfl
  t3 := Try.underlying3
  a3 := Try.isAgg3
  z3 := Try.sizeOf3
  v3 := Try.zeroValue3
  i3 := by kernel_rfl
  t4 := Try.underlying4
  a4 := Try.isAgg4
  z4 := Try.sizeOf4
  v4 := Try.zeroValue4
  i4 := by kernel_rfl
  t9 := Try.underlying9
  a9 := Try.isAgg9
  z9 := Try.sizeOf9
  v9 := Try.zeroValue9
  i9 := by kernel_rfl
  t21 := Try.underlying21
  a21 := Try.isAgg21
  z21 := Try.sizeOf21
  v21 := Try.zeroValue21
  i21 := by kernel_rfl
  t23 := Try.underlying89
  a23 := Try.isAgg89
  z23 := Try.sizeOf89
  v23 := Try.zeroValue89
  i23 := by kernel_rfl }
open Go.RowKit Go.Lib in
theorem strings_ContainsFunc_grows (g : Nat) (lb : Array Value) (eg : ∀ args w, (callFunc g args).run Try.prog w = .ok (.enter g args) w) (p : Nat → Bool) (s : ByteArray) (w : World) (hp : PredGrows Try.prog g lb p w) :
    Calls Try.prog 57 #[.string s, .func (.func g) #[] lb] w fun e w' => e = .returned (.bool (decide (0 ≤ Lib.idxFunc p true s))) ∧ Below w.heap.size w w' := Any.strings_ContainsFunc_grows laysGw17 g lb eg p s w hp
end Go.Proofs.Ytefjbpkomphjdaa.txsh
