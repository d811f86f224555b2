/- The specification's places of choices and jobs; a box of one who decides. The specification's jobs: whether one is right. The specification's one who decides: whether it is right. The specification's answers of one who decides, and a new one. The specification's copy of orders. The specification's copy of one who decides: what is owned. The laws' own helpers on pairs: what each call does. The laws' marks on pairs, and pairs that are the same. -/
import Derived.Test.YteammdkipnfmnaaShab
import Derived.BigQuiet
import Derived.Handy
import Derived.Deep.Onto
import Derived.Test.YteammdkipnfmnaaShaa
namespace Go.Proofs.Yteammdkipnfmnaa.cos
open Go Go.RowKit Go.Proofs.Yteammdkipnfmnaa.base Go.Proofs.Yteammdkipnfmnaa.pairs Go.Proofs.Yteammdkipnfmnaa.ords Go.Proofs.Yteammdkipnfmnaa.lay Go.Proofs.Yteammdkipnfmnaa.wds
set_option linter.unusedVariables false
set_option linter.unusedSimpArgs false

abbrev coV (n life next sure : Int) (ja : Option Addr) (jn jc : Nat) (la : Option Addr) (ln lc : Nat) : Value := .agg #[.int .i64 n, .int .i64 life, .int .i64 next, .slice ja jn jc, .slice la ln lc, .int .i64 sure]
abbrev coO (n life next sure : Int) (ja : Option Addr) (jn jc : Nat) (la : Option Addr) (ln lc : Nat) : Obj := .cells #[.int .i64 n, .int .i64 life, .int .i64 next, .slice ja jn jc, .slice la ln lc, .int .i64 sure] 37
def BoxC (X : Nat) (n life next sure : Int) (ja : Option Addr) (jn jc : Nat) (la : Option Addr) (ln lc : Nat) (w : World) : Prop := w.heap[X]? = some (.cells #[.int .i64 n, .int .i64 life, .int .i64 next, .slice ja jn jc, .slice la ln lc, .int .i64 sure] 37 (0, 0))
section
variable {X : Nat} {n life next sure : Int} {ja : Option Addr} {jn jc : Nat} {la : Option Addr} {ln lc : Nat} {w w' : World}
theorem boxC_new (w : World) (n life next sure : Int) (ja : Option Addr) (jn jc : Nat) (la : Option Addr) (ln lc : Nat) : BoxC w.heap.size n life next sure ja jn jc la ln lc (w.alloc (coO n life next sure ja jn jc la ln lc)) := heap_alloc_new w _
theorem BoxC.cells (h : BoxC X n life next sure ja jn jc la ln lc w) : w.cell? ⟨X, 0, none⟩ = some (.int .i64 n) ∧ w.cell? ⟨X, 1, none⟩ = some (.int .i64 life) ∧ w.cell? ⟨X, 2, none⟩ = some (.int .i64 next) ∧ w.cell? ⟨X, 3, none⟩ = some (.slice ja jn jc) ∧ w.cell? ⟨X, 4, none⟩ = some (.slice la ln lc) ∧ w.cell? ⟨X, 5, none⟩ = some (.int .i64 sure) := by
  unfold BoxC at h
  simp [World.cell?, h]
theorem BoxC.lt (h : BoxC X n life next sure ja jn jc la ln lc w) : X < w.heap.size := (Array.getElem?_eq_some_iff.1 h).1
theorem BoxC.below (h : BoxC X n life next sure ja jn jc la ln lc w) (hb : Below w.heap.size w w') : BoxC X n life next sure ja jn jc la ln lc w' := (hb.block X h.lt).trans h
theorem BoxC.grown {row : Option Nat} (h : BoxC X n life next sure ja jn jc la ln lc w) (hg : w.grownBy w' row) (hne : some X ≠ row) : BoxC X n life next sure ja jn jc la ln lc w' := (hg.block X h.lt hne).trans h
theorem BoxC.fz (h : BoxC X n life next sure ja jn jc la ln lc w) (j : Nat) : w.frozen? ⟨X, j, none⟩ = false := by unfold BoxC at h; simp [World.frozen?, h]
end
theorem below_new (w : World) (o : Obj) : Below w.heap.size w (w.alloc o) := (Below.refl _ _).alloc (Nat.le_refl _) _
end Go.Proofs.Yteammdkipnfmnaa.cos

namespace Go.Proofs.Yteammdkipnfmnaa.cos
open Go Go.RowKit Go.Proofs.Yteammdkipnfmnaa.base Go.Proofs.Yteammdkipnfmnaa.pairs Go.Proofs.Yteammdkipnfmnaa.ords Go.Proofs.Yteammdkipnfmnaa.lay Go.Proofs.Yteammdkipnfmnaa.wds
set_option linter.unusedVariables false
set_option linter.unusedSimpArgs false

def BoxJ (X : Nat) (tx st : Int) (v y : Value) (w : World) : Prop := w.heap[X]? = some (.cells #[.int .i64 tx, v, .int .i64 st, y] 118 (0, 0))
section
variable {X : Nat} {tx st : Int} {v y : Value} {w w' : World}
theorem BoxJ.cells (h : BoxJ X tx st v y w) : w.cell? ⟨X, 0, none⟩ = some (.int .i64 tx) ∧ w.cell? ⟨X, 1, none⟩ = some v ∧ w.cell? ⟨X, 2, none⟩ = some (.int .i64 st) ∧ w.cell? ⟨X, 3, none⟩ = some y := by
  unfold BoxJ at h
  simp [World.cell?, h]
theorem BoxJ.lt (h : BoxJ X tx st v y w) : X < w.heap.size := (Array.getElem?_eq_some_iff.1 h).1
theorem BoxJ.below (h : BoxJ X tx st v y w) (hb : Below w.heap.size w w') : BoxJ X tx st v y w' := (hb.block X h.lt).trans h
end
end Go.Proofs.Yteammdkipnfmnaa.cos

namespace Go.Proofs.Yteammdkipnfmnaa.cos
open Go Go.RowKit Go.Proofs.Yteammdkipnfmnaa.base Go.Proofs.Yteammdkipnfmnaa.pairs Go.Proofs.Yteammdkipnfmnaa.ords Go.Proofs.Yteammdkipnfmnaa.lay Go.Proofs.Yteammdkipnfmnaa.wds
set_option linter.unusedVariables false
set_option linter.unusedSimpArgs false

def FitsCo (c : Co) : Prop := c.2.2.2.1.length ≤ 1099511627776 ∧ c.2.2.2.2.1.length ≤ 1099511627776 ∧ ∀ j ∈ c.2.2.2.1, j.2.1.length ≤ 1099511627776 ∧ (∀ p ∈ j.2.1, p.2.1.size ≤ 1099511627776)

end Go.Proofs.Yteammdkipnfmnaa.cos

namespace Go.Proofs.Yteammdkipnfmnaa.cos
open Go Go.RowKit Go.Proofs.Yteammdkipnfmnaa.base Go.Proofs.Yteammdkipnfmnaa.pairs Go.Proofs.Yteammdkipnfmnaa.ords Go.Proofs.Yteammdkipnfmnaa.lay Go.Proofs.Yteammdkipnfmnaa.wds
set_option linter.unusedVariables false
set_option linter.unusedSimpArgs false

end Go.Proofs.Yteammdkipnfmnaa.cos

namespace Go.Proofs.Yteammdkipnfmnaa.wds
open Go Go.RowKit Go.Proofs.Yteammdkipnfmnaa.base Go.Proofs.Yteammdkipnfmnaa.pairs Go.Proofs.Yteammdkipnfmnaa.ords
set_option linter.unusedVariables false
set_option linter.unusedSimpArgs false

end Go.Proofs.Yteammdkipnfmnaa.wds

namespace Go.Proofs.Yteammdkipnfmnaa.cos
open Go Go.RowKit Go.Proofs.Yteammdkipnfmnaa.base Go.Proofs.Yteammdkipnfmnaa.pairs Go.Proofs.Yteammdkipnfmnaa.ords Go.Proofs.Yteammdkipnfmnaa.lay Go.Proofs.Yteammdkipnfmnaa.wds
set_option linter.unusedVariables false
set_option linter.unusedSimpArgs false

theorem BoxJ.fz {X : Nat} {tx st : Int} {v y : Value} {w : World} (h : BoxJ X tx st v y w) (j : Nat) : w.frozen? ⟨X, j, none⟩ = false := by unfold BoxJ at h; simp [World.frozen?, h]
section
variable {w V V' : World} {n life next sure : Int} {ja : Option Addr} {jn jc : Nat} {la : Option Addr} {ln lc k gj jcap gl lcap : Nat} {jobs : List Jb} {log : List Ch} {q ql : Parts}
end
end Go.Proofs.Yteammdkipnfmnaa.cos

namespace Go.Proofs.Yteammdkipnfmnaa.pairs
open Go Go.RowKit Go.Proofs.Yteammdkipnfmnaa.base Go.Proofs.Yteammdkipnfmnaa.helps
set_option linter.unusedVariables false
set_option linter.unusedSimpArgs false

set_option maxHeartbeats 400000 in
theorem toPair (k v : ByteArray) (w : World) :
    Calls Try.prog 74 #[.agg #[.string k, .string v]] w fun e w' => e = .returned (.agg #[.string k, .string v]) ∧ Below w.heap.size w w' := by
  go_enter Try.func74, Try.ntmps74
  have hB : Below w.heap.size w (((w.alloc (.cells #[.string k, .string v] 142)).alloc (.cells #[.string k, .string v] 109)).alloc (.cells #[.string k, .string v] 109)) :=
    (((Below.refl _ _).alloc (Nat.le_refl _) _).alloc (by simp) _).alloc (by simp; omega) _
  go_wp2
  refine bodyPost_ret (v := .agg #[.string k, .string v]) ?h1 rfl ⟨rfl, hB⟩
  simp [results, Try.results74, go_sem]

def szR (L t : Nat) : Int := if t ≤ L then (L : Int) - (t : Int) else -1
theorem szR_neg {L t : Nat} (h : L < t) : szR L t = -1 := by unfold szR; rw [if_neg (by omega)]
theorem szR_pos {L t : Nat} (h : t ≤ L) : szR L t = (L : Int) - (t : Int) := by unfold szR; rw [if_pos h]
def psz (p : Pr) : Nat := p.1.size + p.2.size
def sumP (l : List Pr) : Nat := (l.map psz).sum
theorem sumP_take (l : List Pr) (k : Nat) (h : k < l.length) : sumP (l.take (k + 1)) = sumP (l.take k) + psz l[k] := by
  unfold sumP; rw [take_snocP l k h, List.map_append, List.sum_append]; simp
theorem sumP_le (l : List Pr) (k : Nat) : sumP (l.take k) ≤ sumP l := by
  have e : sumP l = sumP (l.take k) + sumP (l.drop k) := by
    unfold sumP; rw [← List.sum_append, ← List.map_append, List.take_append_drop]
  omega
set_option maxHeartbeats 400000 in
theorem szPair (p : Pr) (L : Nat) (w : World) (hp : small p) (hL : L ≤ 1099511627776) :
    Calls Try.prog 70 #[.agg #[.string p.1, .string p.2], .int .i64 (L : Int)] w fun e w' => e = .returned (.int .i64 (szR L (psz p))) ∧ Below w.heap.size w w' := by
  have h1 := hp.1
  have h2 := hp.2
  unfold maxLen at h1 h2
  have hB : Below w.heap.size w (w.alloc (.cells #[.string p.1, .string p.2] 142)) := (Below.refl _ _).alloc (Nat.le_refl _) _
  by_cases a1 : L < p.1.size
  · have a2 : (L : Int) - (p.1.size : Int) < 0 := by omega
    have HZ : Hid (szR L (psz p) = -1) := szR_neg (by unfold psz; omega)
    go_enter Try.func70, Try.ntmps70
    go_wp2
    go_ret
    exact ⟨ret_int HZ.out.symm, hB⟩
  · have a2 : ¬ (L : Int) - (p.1.size : Int) < 0 := by omega
    by_cases a3 : L < p.1.size + p.2.size
    · have a4 : (L : Int) - (p.1.size : Int) - (p.2.size : Int) < 0 := by omega
      have HZ : Hid (szR L (psz p) = -1) := szR_neg (by unfold psz; omega)
      go_enter Try.func70, Try.ntmps70
      go_wp2
      go_ret
      exact ⟨ret_int HZ.out.symm, hB⟩
    · have a4 : ¬ (L : Int) - (p.1.size : Int) - (p.2.size : Int) < 0 := by omega
      have HZ : Hid (szR L (psz p) = (L : Int) - (p.1.size : Int) - (p.2.size : Int)) := by show _ = _; rw [szR_pos (by unfold psz; omega)]; unfold psz; omega
      go_enter Try.func70, Try.ntmps70
      go_wp2
      go_ret
      exact ⟨ret_int HZ.out.symm, hB⟩

set_option maxHeartbeats 400000 in
theorem eqPair (p q : Pr) (w : World) :
    Calls Try.prog 62 #[.agg #[.string p.1, .string p.2], .agg #[.string q.1, .string q.2]] w fun e w' => e = .returned (.bool (decide (p = q))) ∧ Below w.heap.size w w' := by
  have hB : Below w.heap.size w ((w.alloc (.cells #[.string p.1, .string p.2] 109)).alloc (.cells #[.string q.1, .string q.2] 109)) := ((Below.refl _ _).alloc (Nat.le_refl _) _).alloc (by simp) _
  obtain ⟨p1, p2⟩ := p
  obtain ⟨q1, q2⟩ := q
  by_cases e1 : p1 = q1
  · subst e1
    by_cases e2 : p2 = q2
    · subst e2
      go_enter Try.func62, Try.ntmps62
      go_wp2
      go_ret
      exact ⟨ret_bool (by simp), hB⟩
    · have hq := str_ne e2
      have HE := Hid.mk' e2
      clear e2
      go_enter Try.func62, Try.ntmps62
      go_wp2
      go_ret
      exact ⟨ret_bool (by have := HE.out; simp [this]), hB⟩
  · have hq := str_ne e1
    have HE := Hid.mk' e1
    clear e1
    go_enter Try.func62, Try.ntmps62
    go_wp2
    go_ret
    exact ⟨ret_bool (by have := HE.out; simp [this]), hB⟩

def zeroP : Pr := (⟨#[]⟩, ⟨#[]⟩)
def copyP (l : List Pr) (k : Nat) : List Pr := l.take k ++ List.replicate (l.length - k) zeroP
theorem copyP_length (l : List Pr) (k : Nat) (h : k ≤ l.length) : (copyP l k).length = l.length := by simp [copyP]; omega
theorem copyP_zero (l : List Pr) : copyP l 0 = List.replicate l.length zeroP := by simp [copyP]
theorem copyP_all (l : List Pr) : copyP l l.length = l := by simp [copyP]
theorem copyP_small (l : List Pr) (k : Nat) (h : ∀ p ∈ l, small p) : ∀ p ∈ copyP l k, small p := by
  intro p hp
  rcases List.mem_append.1 hp with h1 | h1
  · exact h p (List.mem_of_mem_take h1)
  · obtain rfl := (List.mem_replicate.1 h1).2; exact ⟨Nat.zero_le _, Nat.zero_le _⟩
theorem copyP_set (l : List Pr) (k : Nat) (h : k < l.length) : (copyP l k).set k l[k] = copyP l (k + 1) := by
  unfold copyP
  rw [List.set_append_right _ _ (by simp; omega), take_snocP l k h, List.append_assoc]
  congr 1
  rw [List.length_take_of_le (by omega), Nat.sub_self, show l.length - k = l.length - (k + 1) + 1 by omega, List.replicate_succ]
  rfl
theorem pairVals_rep (n : Nat) : pairVals (List.replicate n zeroP) = (madeCells #[.string ⟨#[]⟩, .string ⟨#[]⟩] (n * 2)).toList := by
  have e1 : pairVals (List.replicate n zeroP) = List.replicate (n * 2) (.string ⟨#[]⟩) := by
    induction n with
    | zero => rfl
    | succ n ih => rw [List.replicate_succ, pairVals_cons, ih, show (n + 1) * 2 = n * 2 + 1 + 1 by omega, List.replicate_succ, List.replicate_succ]; rfl
  rw [e1]
  apply List.ext_getElem
  · simp [madeCells]
  · intro j h1 h2
    have hm : j % 2 = 0 ∨ j % 2 = 1 := by omega
    rcases hm with hm | hm <;> simp [madeCells, hm]

set_option maxRecDepth 100000 in
set_option maxHeartbeats 1000000 in
theorem toPairS (a : Option Addr) (len cap : Nat) (l : List Pr) (w : World) (h : SlP w a len l) (hsz : len ≤ 1099511627776) :
    Calls Try.prog 60 #[.slice a len cap] w fun e w' => ∃ g, e = .returned (.slice (some ⟨g, 0, none⟩) len len) ∧ OwnP w' w.heap.size g len len l ∧ Below w.heap.size w w' := by
  obtain ⟨hl, hm, hsm, hc⟩ := h
  subst hl
  have hm' := hm
  unfold maxLen at hm'
  obtain ⟨i0, hif, hz0, hz1, hz2⟩ := info_parts infoP
  go_enter Try.func60, Try.ntmps60
  go_wp2_with (at_make; refine wpList_make_full _ rfl _ _ 53 rfl w.heap.size 109 i0 (.agg #[.string ⟨#[]⟩, .string ⟨#[]⟩]) 2 Try.underlying53 hif hz0 hz1 _ _ _ _ l.length rfl rfl rfl rfl ?b2 ?b3 ?b4 ?_)
  case b2 => rw [hz2]; omega
  case b3 => exact hm
  case b4 => exact Nat.le_refl _
  intro w1 hown hgrow
  have hOwn : OwnP w1 w.heap.size w.heap.size l.length l.length (copyP l 0) := by
    refine ⟨copyP_length l 0 (Nat.zero_le _), copyP_small l 0 hsm, ?_⟩
    rw [copyP_zero, pairVals_rep]; exact hown
  have hbel : Below w.heap.size w w1 := (Below.refl _ _).grown hgrow (Nat.le_refl _) (fun k e => by cases e)
  clear hown hgrow hif hz0 hz1 hz2
  go_wp2_with fail
  go_loopw [4] (fun i wr => ∃ k : Nat, k ≤ l.length ∧ i = .int .i64 k ∧ OwnP wr w.heap.size w.heap.size l.length l.length (copyP l k) ∧ Below w.heap.size w wr) (fun i _ => l.length - (intOf i).toNat)
  case atStart => exact ⟨0, Nat.zero_le _, rfl, hOwn, hbel⟩
  case round =>
    clear hOwn hbel
    obtain ⟨k, hk, rfl, hO, hB⟩ := hrel
    by_cases hlt : k < l.length
    · obtain ⟨b, off, ha, hcl⟩ := hc (by omega)
      subst ha
      have hbb : b < w.heap.size := World.block_lt_of_cell? w _ (hcl k hlt).1
      have c1 : wr.cell? ⟨b, off + k * 2, none⟩ = some (.string l[k].1) := (hB.cell (p := ⟨b, off + k * 2, none⟩) hbb).trans (hcl k hlt).1
      have c2 : wr.cell? ⟨b, off + k * 2 + 1, none⟩ = some (.string l[k].2) := (hB.cell (p := ⟨b, off + k * 2 + 1, none⟩) hbb).trans (hcl k hlt).2
      have hpk := hsm _ (List.getElem_mem hlt)
      have hki : (k : Int) < (l.length : Int) := by omega
      have HS := Hid.mk' (copyP_set l k hlt)
      generalize l[k] = p at *
      clear hcl hc
      go_wp2_with fail
      refine (toPair p.1 p.2 _).mono ?_
      rintro e w2 ⟨rfl, hB2⟩
      have hO2 := hO.below hB2
      have hB3 := hB.trans (hB2.mono hB.size)
      have hkl : k < (copyP l k).length := by rw [copyP_length l k hk]; exact hlt
      have d1 := hO2.key k hkl
      have d2 := hO2.val k hkl
      have f1 := hO2.frozen (k * 2)
      have f2 := hO2.frozen (k * 2 + 1)
      have R := hO2.setBoth k hkl p.1 p.2 hpk.1 hpk.2
      rw [HS.out] at R
      have HR := Hid.mk' R
      generalize (copyP l k)[k].1 = z1 at *
      generalize (copyP l k)[k].2 = z2 at *
      clear R hO hO2 hB hB2 c1 c2
      go_wp2_with fail
      go_roundw
      case rel => exact ⟨k + 1, by omega, by go_num, HR.out.1, hB3.trans (below_grown HR.out.2 (Nat.le_refl _) hB3.size)⟩
      case measure => simp [intOf]; omega
    · go_wp2_with fail
      go_ret
      have e : k = l.length := by omega
      subst e
      rw [copyP_all] at hO
      exact ⟨_, rfl, hO, hB⟩

set_option maxRecDepth 100000 in
set_option maxHeartbeats 1000000 in
theorem szPairS (a : Option Addr) (len cap : Nat) (l : List Pr) (L : Nat) (w : World) (h : SlP w a len l) (hL : L ≤ 1099511627776) :
    Calls Try.prog 55 #[.slice a len cap, .int .i64 (L : Int)] w fun e w' => e = .returned (.int .i64 (szR L (l.length + sumP l))) ∧ Below w.heap.size w w' := by
  obtain ⟨hl, hm, hsm, hc⟩ := h
  subst hl
  unfold maxLen at hm
  by_cases hneg : L < l.length
  · rw [szR_neg (by omega)]
    have h1 : (L : Int) - (l.length : Int) < 0 := by omega
    go_enter Try.func55, Try.ntmps55
    go_wp2
    go_ret
    exact ⟨rfl, Below.refl _ _⟩
  · have h1 : ¬ (L : Int) - (l.length : Int) < 0 := by omega
    go_enter Try.func55, Try.ntmps55
    go_wp2_with fail
    go_loopw [1, 5] (fun lv i wr => ∃ k m : Nat, k ≤ l.length ∧ i = .int .i64 (k : Int) ∧ lv = .int .i64 (m : Int) ∧ m + (l.length + sumP (l.take k)) = L ∧ Below w.heap.size w wr) (fun _ i _ => l.length - (intOf i).toNat)
    case atStart => exact ⟨0, L - l.length, Nat.zero_le _, rfl, by go_num, by simp [sumP]; omega, Below.refl _ _⟩
    case round =>
      obtain ⟨k, m, hk, rfl, rfl, hmL, hB⟩ := hrel
      by_cases hlt : k < l.length
      · obtain ⟨b, off, ha, hcl⟩ := hc (by omega)
        subst ha
        have hst := sumP_take l k hlt
        have hle := sumP_le l (k + 1)
        have hbb : b < w.heap.size := World.block_lt_of_cell? w _ (hcl k hlt).1
        have c1 : wr.cell? ⟨b, off + k * 2, none⟩ = some (.string l[k].1) := (hB.cell (p := ⟨b, off + k * 2, none⟩) hbb).trans (hcl k hlt).1
        have c2 : wr.cell? ⟨b, off + k * 2 + 1, none⟩ = some (.string l[k].2) := (hB.cell (p := ⟨b, off + k * 2 + 1, none⟩) hbb).trans (hcl k hlt).2
        have hpk := hsm _ (List.getElem_mem hlt)
        have hi1 : (k : Int) < (l.length : Int) := by omega
        have hmB : m ≤ 1099511627776 := by omega
        have HML := Hid.mk' hmL
        have HST := Hid.mk' hst
        have HLE := Hid.mk' hle
        generalize l[k] = p at *
        clear hcl hc hsm hmL hst hle
        have hcall := szPair p m wr hpk hmB
        by_cases hover : m < psz p
        · rw [szR_neg hover] at hcall
          have HC := Hid.mk' hcall
          clear hcall
          go_wp2_with fail
          refine HC.out.mono ?_
          rintro e w2 ⟨rfl, hB2⟩
          go_wp2_with fail
          go_ret
          have e1 := HML.out
          have e2 := HST.out
          have e3 := HLE.out
          rw [szR_neg (by omega)]
          exact ⟨rfl, hB.trans (hB2.mono hB.size)⟩
        · rw [szR_pos (by omega), show (m : Int) - (psz p : Int) = ((m - psz p : Nat) : Int) by omega] at hcall
          have HC := Hid.mk' hcall
          obtain ⟨m2, hm2⟩ : ∃ m2, m - psz p = m2 := ⟨_, rfl⟩
          rw [hm2] at HC
          have HM2 := Hid.mk' hm2
          have hm2b : m2 ≤ 1099511627776 := by omega
          clear hcall hm2
          go_wp2_with fail
          refine HC.out.mono ?_
          rintro e w2 ⟨rfl, hB2⟩
          go_wp2_with fail
          go_roundw
          case rel => exact ⟨k + 1, m2, by omega, by go_num, rfl, by have e1 := HML.out; have e2 := HST.out; have e3 := HM2.out; omega, hB.trans (hB2.mono hB.size)⟩
          case measure => simp [intOf]; omega
      · have e : k = l.length := by omega
        have HML := Hid.mk' hmL
        clear hmL
        go_wp2_with fail
        go_ret
        have e1 := HML.out
        rw [e, List.take_length] at e1
        rw [szR_pos (by omega)]
        exact ⟨ret_int (by omega), hB⟩

theorem take_eqP {l l2 : List Pr} {k : Nat} (h : l.take k = l2.take k) (h1 : k < l.length) (h2 : k < l2.length) (e : l[k] = l2[k]) : l.take (k + 1) = l2.take (k + 1) := by
  rw [take_snocP l k h1, take_snocP l2 k h2, h, e]
set_option maxRecDepth 100000 in
set_option maxHeartbeats 1000000 in
theorem eqPairS (a a2 : Option Addr) (len cap len2 cap2 : Nat) (l l2 : List Pr) (w : World) (h : SlP w a len l) (h2 : SlP w a2 len2 l2) :
    Calls Try.prog 42 #[.slice a len cap, .slice a2 len2 cap2] w fun e w' => e = .returned (.bool (decide (l = l2))) ∧ Below w.heap.size w w' := by
  obtain ⟨hl, hm, _, hc⟩ := h
  obtain ⟨hl2, hm2, _, hc2⟩ := h2
  subst hl hl2
  unfold maxLen at hm hm2
  by_cases hne : l.length = l2.length
  · have hb : ((l.length : Int) == (l2.length : Int)) = true := by simp; omega
    go_enter Try.func42, Try.ntmps42
    go_wp2_with fail
    go_loopw [5] (fun i wr => ∃ k : Nat, k ≤ l.length ∧ i = .int .i64 k ∧ l.take k = l2.take k ∧ Below w.heap.size w wr) (fun i _ => l.length - (intOf i).toNat)
    case atStart => exact ⟨0, Nat.zero_le _, rfl, rfl, Below.refl _ _⟩
    case round =>
      obtain ⟨k, hk, rfl, htk, hB⟩ := hrel
      by_cases hlt : k < l.length
      · obtain ⟨b, off, ha, hcl⟩ := hc (by omega)
        obtain ⟨b2, off2, ha2, hcl2⟩ := hc2 (by omega)
        subst ha ha2
        have hlt2 : k < l2.length := by omega
        have hi1 : (k : Int) < (l.length : Int) := by omega
        have hi2 : (k : Int) < (l2.length : Int) := by omega
        have HT := Hid.mk' htk
        have hb1 : b < w.heap.size := World.block_lt_of_cell? w _ (hcl k hlt).1
        have hb2 : b2 < w.heap.size := World.block_lt_of_cell? w _ (hcl2 k hlt2).1
        have c1 := (hB.cell (p := ⟨b, off + k * 2, none⟩) hb1).trans (hcl k hlt).1
        have c2 := (hB.cell (p := ⟨b, off + k * 2 + 1, none⟩) hb1).trans (hcl k hlt).2
        have c3 := (hB.cell (p := ⟨b2, off2 + k * 2, none⟩) hb2).trans (hcl2 k hlt2).1
        have c4 := (hB.cell (p := ⟨b2, off2 + k * 2 + 1, none⟩) hb2).trans (hcl2 k hlt2).2
        have o1 := last.On.cell (B := wr.heap.size) c1 (by have := hB.size; omega)
        have o2 := last.On.cell (B := wr.heap.size) c2 (by have := hB.size; omega)
        have o3 := last.On.cell (B := wr.heap.size) c3 (by have := hB.size; omega)
        have o4 := last.On.cell (B := wr.heap.size) c4 (by have := hB.size; omega)
        have hinh := last.On.inh wr.heap.size wr
        have hcall : ∀ x : last.On wr.heap.size wr, Calls Try.prog 62 #[.agg #[.string l[k].1, .string l[k].2], .agg #[.string l2[k].1, .string l2[k].2]] x.w fun e w' => e = .returned (.bool (decide (l[k] = l2[k]))) ∧ ∃ y : last.On wr.heap.size wr, w' = y.w := fun x => last.Calls.on x (Nat.le_refl _) (eqPair l[k] l2[k] x.w)
        by_cases e : l[k] = l2[k]
        · rw [decide_eq_true e] at hcall
          have HE := Hid.mk' (take_eqP htk hlt hlt2 e)
          clear hcl hcl2 hc hc2 htk hne e
          generalize l[k] = p at *
          generalize l2[k] = q at *
          go_wp2_with fail
          refine last.wp_region_on wr.heap.size (by kernel_rfl) (by kernel_rfl) ?_
          repeat (go_big_quiet_step ((go_at_call 62; exact hcall _)))
          refine wpQuiet_nil ?_
          intro w5 hw5
          obtain ⟨x5, hw5⟩ := hw5
          subst hw5
          have hB5 : Below w.heap.size w x5.w := hB.trans (x5.2.mono hB.size)
          go_wp2_with fail
          go_roundw
          case rel => exact ⟨k + 1, by omega, by go_num, HE.out, hB5⟩
          case measure => simp [intOf]; omega
        · rw [decide_eq_false e] at hcall
          have HE : Hid (¬ l = l2) := by
            show ¬ _
            rintro rfl; exact e rfl
          clear hcl hcl2 hc hc2 htk hne e
          generalize l[k] = p at *
          generalize l2[k] = q at *
          go_wp2_with fail
          refine last.wp_region_on wr.heap.size (by kernel_rfl) (by kernel_rfl) ?_
          repeat (go_big_quiet_step ((go_at_call 62; exact hcall _)))
          refine wpQuiet_nil ?_
          intro w5 hw5
          obtain ⟨x5, hw5⟩ := hw5
          subst hw5
          have hB5 : Below w.heap.size w x5.w := hB.trans (x5.2.mono hB.size)
          go_wp2_with fail
          go_ret
          exact ⟨ret_bool (by symm; rw [decide_eq_false_iff_not]; exact HE.out), hB5⟩
      · have e : k = l.length := by omega
        have hfin : l = l2 := by
          subst e
          rw [List.take_of_length_le (Nat.le_refl _), List.take_of_length_le (by omega)] at htk
          exact htk
        have HF := Hid.mk' hfin
        clear hfin htk
        go_wp2_with fail
        go_ret
        exact ⟨ret_bool (by symm; rw [decide_eq_true_iff]; exact HF.out), hB⟩
  · have hb : ((l.length : Int) == (l2.length : Int)) = false := by simp; omega
    go_enter Try.func42, Try.ntmps42
    go_wp2
    go_ret
    exact ⟨ret_bool (by symm; rw [decide_eq_false_iff_not]; intro h; exact hne (by rw [h])), Below.refl _ _⟩

end Go.Proofs.Yteammdkipnfmnaa.pairs

namespace Go.Proofs.Yteammdkipnfmnaa.pairs
open Go Go.RowKit Go.Proofs.Yteammdkipnfmnaa.base Go.Proofs.Yteammdkipnfmnaa.helps
set_option linter.unusedVariables false
set_option linter.unusedSimpArgs false

def marksP (k0 n : Nat) : List Pr := (List.range n).map fun j => (markBytes (k0 + 2 * j), markBytes (k0 + 2 * j + 1))
def markPTo (l : List Pr) (k0 i : Nat) : List Pr := marksP k0 i ++ l.drop i
theorem marksP_length (k0 n : Nat) : (marksP k0 n).length = n := by simp [marksP]
theorem marksP_get (k0 n i : Nat) (h : i < n) : (marksP k0 n)[i]'(by rw [marksP_length]; exact h) = (markBytes (k0 + 2 * i), markBytes (k0 + 2 * i + 1)) := by simp [marksP]
theorem markPTo_length (l : List Pr) (k0 i : Nat) (h : i ≤ l.length) : (markPTo l k0 i).length = l.length := by simp [markPTo, marksP]; omega
theorem markPTo_zero (l : List Pr) (k0 : Nat) : markPTo l k0 0 = l := by simp [markPTo, marksP]
theorem markPTo_all (l : List Pr) (k0 : Nat) : markPTo l k0 l.length = marksP k0 l.length := by simp [markPTo]
theorem markPTo_set (l : List Pr) (k0 i : Nat) (h : i < l.length) : (markPTo l k0 i).set i (markBytes (k0 + 2 * i), markBytes (k0 + 2 * i + 1)) = markPTo l k0 (i + 1) := by
  unfold markPTo marksP
  rw [List.set_append_right _ _ (by simp)]
  simp only [List.length_map, List.length_range, Nat.sub_self, List.range_succ, List.map_append, List.map_cons, List.map_nil, List.append_assoc]
  congr 1
  rw [List.drop_eq_getElem_cons h]
  rfl

set_option maxRecDepth 100000 in
set_option maxHeartbeats 1000000 in
theorem markPairS (g len cap k0 base : Nat) (l : List Pr) (w : World) (h : OwnP w base g len cap l) (hk1 : 1 ≤ k0) (hk0 : k0 + 2 * len ≤ 1099511627776) :
    Calls Try.prog 30 #[.slice (some ⟨g, 0, none⟩) len cap, .int .i64 (k0 : Nat)] w fun e w' => e = .returned (.int .i64 ((k0 + 2 * len : Nat) : Int)) ∧ OwnP w' base g len cap (marksP k0 len) ∧ w.grownBy w' (some g) := by
  have hl := h.1
  subst hl
  go_enter Try.func30, Try.ntmps30
  go_wp2_with fail
  go_loopw [1, 5] (fun kv i wr => ∃ k : Nat, k ≤ l.length ∧ i = .int .i64 k ∧ kv = .int .i64 ((k0 + 2 * k : Nat) : Int) ∧ OwnP wr base g l.length cap (markPTo l k0 k) ∧ w.grownBy wr (some g)) (fun _ i _ => l.length - (intOf i).toNat)
  case atStart => exact ⟨0, Nat.zero_le _, rfl, rfl, by rw [markPTo_zero]; exact h, World.grownBy.refl _ _⟩
  case round =>
    obtain ⟨k, hk, rfl, rfl, hO, hG⟩ := hrel
    by_cases hlt : k < l.length
    · have hlen : k < (markPTo l k0 k).length := by rw [markPTo_length l k0 k hk]; exact hlt
      have HS := Hid.mk' (markPTo_set l k0 k hlt)
      have hki : (k : Int) < (l.length : Int) := by omega
      go_wp2_with fail
      refine (markTextI _ (k0 + 2 * k) _ (by show _ = _; omega) (by omega) (by omega)).mono ?_
      rintro e w1 ⟨rfl, hB1⟩
      have hO1 := hO.below hB1
      have hG1 := grown_below hG hB1
      have d1 := hO1.key k hlen
      have f1 := hO1.frozen (k * 2)
      have R := hO1.setKey k hlen (markBytes (k0 + 2 * k)) (mark_max _)
      have HR := Hid.mk' R
      have hG2 := grownBy_trans hG1 R.2
      clear R hO hG hO1 hG1
      go_wp2_with fail
      refine (markTextI _ (k0 + 2 * k + 1) _ (by show _ = _; omega) (by omega) (by omega)).mono ?_
      rintro e w2 ⟨rfl, hB2⟩
      have hO2 := HR.out.1.below hB2
      have hG3 := grown_below hG2 hB2
      have hlen2 : k < ((markPTo l k0 k).set k (markBytes (k0 + 2 * k), (markPTo l k0 k)[k].2)).length := by simpa using hlen
      have d2 := hO2.val k hlen2
      have f2 := hO2.frozen (k * 2 + 1)
      have R2 := hO2.setVal k hlen2 (markBytes (k0 + 2 * k + 1)) (mark_max _)
      simp only [List.getElem_set_self, List.set_set] at R2
      rw [HS.out] at R2
      have HR2 := Hid.mk' R2
      have hG4 := grownBy_trans hG3 R2.2
      clear R2 hO2 hG3 hG2 HR d1 f1
      go_wp2_with fail
      go_roundw
      case rel => exact ⟨k + 1, by omega, by go_num, by go_num, HR2.out.1, hG4⟩
      case measure => simp [intOf]; omega
    · go_wp2_with fail
      go_ret
      have e : k = l.length := by omega
      subst e
      rw [markPTo_all] at hO
      exact ⟨rfl, hO, hG⟩

set_option maxRecDepth 100000 in
set_option maxHeartbeats 1000000 in
theorem heldPairS (a : Option Addr) (len cap k0 : Nat) (w : World) (h : SlP w a len (marksP k0 len)) (hk1 : 1 ≤ k0) (hk0 : k0 + 2 * len ≤ 1099511627776) :
    Calls Try.prog 31 #[.slice a len cap, .int .i64 (k0 : Nat)] w fun e w' => e = .returned (.int .i64 ((k0 + 2 * len : Nat) : Int)) ∧ Below w.heap.size w w' := by
  obtain ⟨hl, hm, _, hc⟩ := h
  go_enter Try.func31, Try.ntmps31
  go_wp2_with fail
  go_loopw [1, 5] (fun kv i wr => ∃ k : Nat, k ≤ len ∧ i = .int .i64 k ∧ kv = .int .i64 ((k0 + 2 * k : Nat) : Int) ∧ Below w.heap.size w wr) (fun _ i _ => len - (intOf i).toNat)
  case atStart => exact ⟨0, Nat.zero_le _, rfl, rfl, Below.refl _ _⟩
  case round =>
    obtain ⟨k, hk, rfl, rfl, hB⟩ := hrel
    by_cases hlt : k < len
    · obtain ⟨b, off, ha, hcl⟩ := hc (by omega)
      subst ha
      have hkl : k < (marksP k0 len).length := by omega
      obtain ⟨d1, d2⟩ := hcl k hkl
      rw [marksP_get k0 len k hlt] at d1 d2
      have hbb : b < w.heap.size := World.block_lt_of_cell? w _ d1
      have c1 := (hB.cell (p := ⟨b, off + k * 2, none⟩) hbb).trans d1
      have c2 := (hB.cell (p := ⟨b, off + k * 2 + 1, none⟩) hbb).trans d2
      have hbw := hB.size
      have o1 := last.On.cell (B := wr.heap.size) c1 (by omega)
      have hinh := last.On.inh wr.heap.size wr
      have hki : (k : Int) < (len : Int) := by omega
      have hm1 : ∀ x : last.On wr.heap.size wr, Calls Try.prog 52 #[.int .i64 ((k0 : Int) + 2 * (k : Int))] x.w fun e w' => e = .returned (.string (markBytes (k0 + 2 * k))) ∧ ∃ y : last.On wr.heap.size wr, w' = y.w := fun x => last.Calls.on x (Nat.le_refl _) (markTextI _ (k0 + 2 * k) x.w (by show _ = _; omega) (by omega) (by omega))
      clear hcl hc d1 d2 hkl
      generalize hM1 : markBytes (k0 + 2 * k) = M1 at *
      generalize hM2 : markBytes (k0 + 2 * k + 1) = M2 at *
      have HM2 := Hid.mk' hM2
      clear hM1 hM2
      go_wp2_with fail
      refine last.wp_region_on wr.heap.size (by kernel_rfl) (by kernel_rfl) ?_
      repeat (go_big_quiet_step ((go_at_call 52; exact hm1 _)))
      refine wpQuiet_nil ?_
      intro w5 hw5
      obtain ⟨x5, hw5⟩ := hw5
      subst hw5
      have hB5 : Below w.heap.size w x5.w := hB.trans (x5.2.mono hB.size)
      have c2' : x5.w.cell? ⟨b, off + k * 2 + 1, none⟩ = some (.string M2) := (x5.2.cell (p := ⟨b, off + k * 2 + 1, none⟩) (by show b < _; omega)).trans c2
      generalize x5.w = w6 at *
      clear o1 hinh hm1 c1 c2
      have hbw6 := hB5.size
      have o2 := last.On.cell (B := w6.heap.size) c2' (by omega)
      have hinh := last.On.inh w6.heap.size w6
      have hm2 : ∀ x : last.On w6.heap.size w6, Calls Try.prog 52 #[.int .i64 ((k0 : Int) + 2 * (k : Int) + 1)] x.w fun e w' => e = .returned (.string M2) ∧ ∃ y : last.On w6.heap.size w6, w' = y.w := fun x => last.Calls.on x (Nat.le_refl _) (by rw [← HM2.out]; exact markTextI _ (k0 + 2 * k + 1) x.w (by show _ = _; omega) (by omega) (by omega))
      clear HM2
      go_wp2_with fail
      refine last.wp_region_on w6.heap.size (by kernel_rfl) (by kernel_rfl) ?_
      repeat (go_big_quiet_step ((go_at_call 52; exact hm2 _)))
      refine wpQuiet_nil ?_
      intro w7 hw7
      obtain ⟨x7, hw7⟩ := hw7
      subst hw7
      have hB7 : Below w.heap.size w x7.w := hB5.trans (x7.2.mono hB5.size)
      go_wp2_with fail
      go_roundw
      case rel => exact ⟨k + 1, by omega, by go_num, by go_num, hB7⟩
      case measure => simp [intOf]; omega
    · go_wp2_with fail
      go_ret
      have e : k = len := by omega
      subst e
      exact ⟨rfl, hB⟩


end Go.Proofs.Yteammdkipnfmnaa.pairs
