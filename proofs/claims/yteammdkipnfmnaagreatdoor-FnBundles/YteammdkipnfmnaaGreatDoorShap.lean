/- Draws of pairs that are right, and a place of one. Draws of pairs that are right, two ends and a proof, bent or not. A bundle that is bent: what the walk keeps. Rows of orders (three cells each): small facts on worlds; no function of the program is named here. The specification's orders: what is right, what is met. The specification's orders: all of them are right. hash walks The specification's orders: what is met, what is done, at which shard. A call as a step of a region that draws its order. No function of the program is named here. -/
import Derived.Test.YteammdkipnfmnaaGreatDoorShan
import Derived.Test.YteammdkipnfmnaaGreatDoorShag
import Derived.Test.YteammdkipnfmnaaGreatDoorShao
import Derived.Test.YteammdkipnfmnaaGreatDoorShal
import Derived.Test.YteammdkipnfmnaaGreatDoorSham
import Derived.Test.YteammdkipnfmnaaGreatDoorShaj
import Derived.Test.YteammdkipnfmnaaGreatDoorShaa
import Derived.Test.YteammdkipnfmnaaGreatDoorShac
import Derived.OwnWalk
import Derived.Test.YteammdkipnfmnaaGreatDoorRows
import Derived.WalkKit
import Derived.WalkSpells
import Derived.WalkLawsBesides
namespace Go.Proofs.YteammdkipnfmnaaGreatDoor.pairs
open Go Go.RowKit Go.Proofs.YteammdkipnfmnaaGreatDoor.base Go.Proofs.YteammdkipnfmnaaGreatDoor.draw
set_option linter.unusedVariables false
set_option linter.unusedSimpArgs false

def zz : ByteArray := ⟨#[122, 122]⟩
def goodK (z : ByteArray) : Bool := keyOk z && Op.bytesLess z.data.toList [122, 122]
theorem goodK_ok {z : ByteArray} (h : goodK z = true) : keyOk z = true := (Bool.and_eq_true_iff.1 h).1
theorem goodK_lt {z : ByteArray} (h : goodK z = true) : ltB z zz = true := by
  have := (Bool.and_eq_true_iff.1 h).2
  unfold ltB
  rw [ByteArray.toList_eq, ByteArray.toList_eq]; exact this
theorem goodK_size {z : ByteArray} (h : goodK z = true) : z.size ≤ 13 := by
  have := goodK_ok h
  unfold keyOk at this
  have := (Bool.and_eq_true_iff.1 this).2
  have := of_decide_eq_true this
  omega
def good (l : List Pr) : Prop := pairsOk l = true ∧ ∀ p ∈ l, ltB p.1 zz = true
theorem good_nil : good [] := ⟨rfl, fun p hp => absurd hp List.not_mem_nil⟩
theorem good_put {key val : ByteArray} {l : List Pr} (h : good l) (hk : goodK key = true) (hv : val.size ≤ 20) (hl : l.length ≤ 8) : good (putKey key val l) := by
  refine ⟨pairsOk_put h.1 (goodK_ok hk) hv (by omega), fun p hp => ?_⟩
  rcases putKey_mem hp with h1 | h1
  · exact h.2 p h1
  · subst h1; exact goodK_lt hk
def good1 (l : List Pr) : Prop := pairsOk l = true
theorem good1_tiny {l : List Pr} (h : good1 l) : ∀ p ∈ l, tiny p := fun p hp => by
  have := ((pairsOk_iff l).1 h).1.1 p hp
  unfold pairOk keyOk at this
  simp only [Bool.and_eq_true, decide_eq_true_eq] at this
  exact ⟨by omega, by omega⟩
theorem some_atB (zs : Array Value) (n : Nat) (f : ByteArray → Bool) (h : (List.range n).all (fun i => match zs[i]? with | some (.string z) => f z | _ => false) = true) : ∀ i, i < n → ∃ z, zs[i]? = some (.string z) ∧ f z = true := by
  intro i hi
  have := List.all_eq_true.1 h i (List.mem_range.2 hi)
  split at this
  · rename_i z hz; exact ⟨z, hz, this⟩
  · cases this
set_option maxHeartbeats 1000000 in
theorem d_keyG (w0 w : World) (gc : Nat) (a : Option Addr) (len cap : Nat) (code : List UInt8) (h : Cur w0 w gc a len cap code) :
    Calls Tryz.prog 85 #[.pointer (some ⟨gc, 0, none⟩)] w fun e w' => ∃ z : ByteArray, goodK z = true ∧ e = .returned (.string z) ∧ Cur w0 w' gc a len cap code ∧ w.grownBy w' (some gc) := by
  go_enter Tryz.func85, Tryz.ntmps85
  go_wp2_with fail
  have hne := curNe h
  refine (str_ w0 _ gc a len cap code w.heap.size 7 _ _ _ (h.below ((Below.refl _ _).alloc (Nat.le_refl _) _)) (heap_alloc_new w _) rfl (by omega) (by omega) hne (fun z => goodK z = true) (some_atB _ 7 goodK (by kernel_rfl))).mono ?_
  rintro e w1 ⟨z, hz, rfl, hc1, hg1⟩
  go_wp2_with fail
  go_ret
  exact ⟨z, hz, rfl, hc1, grown_of_alloc hg1⟩
def GotPairsG (w0 w : World) (gc : Nat) (a : Option Addr) (len cap : Nat) (code : List UInt8) (e : Ending) (w' : World) : Prop :=
  ∃ (g n cp : Nat) (l : List Pr), n ≤ 8 ∧ good l ∧ e = .returned (.slice (some ⟨g, 0, none⟩) n cp) ∧ OwnP w' w.heap.size g n cp l ∧ Cur w0 w' gc a len cap code ∧ w.grownBy w' (some gc)

set_option maxRecDepth 100000 in
set_option maxHeartbeats 1000000 in
theorem d_pairsG (w0 w : World) (gc : Nat) (a : Option Addr) (len cap : Nat) (code : List UInt8) (h : Cur w0 w gc a len cap code) :
    Calls Tryz.prog 49 #[.pointer (some ⟨gc, 0, none⟩)] w fun e w' => GotPairsG w0 w gc a len cap code e w' := by
  have hba : Below w.heap.size w (w.alloc (.cells #[] 34)) := (Below.refl _ _).alloc (Nat.le_refl _) _
  have hcl := h.lt
  go_enter Tryz.func49, Tryz.ntmps49
  go_wp2_with fail
  refine (below_ w0 _ gc a len cap code _ (h.below hba) (by omega) (by omega)).mono ?_
  rintro e w1 ⟨x, hx, rfl, hc1, hg1⟩
  have hO1 : OwnP w1 w.heap.size w.heap.size 0 0 [] := (ownP_made w w.heap.size (Nat.le_refl _)).grown hg1 (by simp; omega)
  have hG1 : w.grownBy w1 (some gc) := grown_of_alloc hg1
  clear hg1 hba
  go_wp2_with fail
  go_loopw [3, 4] (fun v i wr => ∃ (k g n cp : Nat) (l : List Pr), k ≤ 8 ∧ n + k ≤ 8 ∧ i = .int .i64 (k : Int) ∧ v = .slice (some ⟨g, 0, none⟩) n cp ∧ good l ∧ OwnP wr w.heap.size g n cp l ∧ Cur w0 wr gc a len cap code ∧ w.grownBy wr (some gc)) (fun _ i _ => (intOf i).toNat)
  case atStart => exact ⟨x, w.heap.size, 0, 0, [], by omega, by omega, rfl, rfl, good_nil, hO1, hc1, hG1⟩
  case round =>
    clear hO1 hc1 hG1
    obtain ⟨k, g, n, cp, l, hk, hnk, rfl, rfl, ht, hO, hC, hG⟩ := hrel
    by_cases hk0 : 0 < k
    · have hgne : g ≠ gc := by have := hO.lt; omega
      go_wp2_with fail
      refine (d_keyG w0 _ gc a len cap code hC).mono ?_
      rintro e w2 ⟨z1, hz1G, rfl, hC2, hG2⟩
      have hO2 := hO.grown hG2 (by simpa using hgne)
      go_wp2_with fail
      refine (d_val w0 _ gc a len cap code hC2).mono ?_
      rintro e w3 ⟨z2, hz2, rfl, hC3, hG3⟩
      have hO3 := hO2.grown hG3 (by simpa using hgne)
      have hz1 := goodK_size hz1G
      have hcs := hO3.cases
      have hln := hO3.1
      go_wp2_with fail
      refine (spec_putKey g 0 n cp l z1 z2 _ hO3.sl hcs.1 (by omega) (max13 (by omega)) (max13 (by omega))).mono ?_
      rintro e w4 ⟨g4, n4, cp4, rfl, hO4, hB4⟩
      have hpl := putKey_length z1 z2 l
      have hn4 : n4 ≤ n + 1 := by have := hO4.1; omega
      have hC4 := hC3.below hB4
      have hG4 := grown_below (grownBy_trans hG (grownBy_trans hG2 hG3)) hB4
      have hO5 := hO4.mono (base' := w.heap.size) (by have := hG.size; have := hG2.size; have := hG3.size; omega)
      have ht4 := good_put ht hz1G (Nat.le_trans hz2 (by omega)) (by omega)
      clear hO hO2 hO3 hO4 hB4 hC hC2 hC3 hG hG2 hG3 hcs hpl
      go_wp2_with fail
      go_roundw
      case rel => exact ⟨k - 1, g4, n4, cp4, _, by omega, by omega, by go_num, rfl, ht4, hO5, hC4, hG4⟩
      case measure => simp [intOf]; omega
    · go_wp2_with fail
      go_ret
      exact ⟨g, n, cp, l, by omega, ht, rfl, hO, hC, hG⟩

end Go.Proofs.YteammdkipnfmnaaGreatDoor.pairs

namespace Go.Proofs.YteammdkipnfmnaaGreatDoor.range
open Go Go.RowKit Go.Proofs.YteammdkipnfmnaaGreatDoor.base Go.Proofs.YteammdkipnfmnaaGreatDoor.pairs Go.Proofs.YteammdkipnfmnaaGreatDoor.tree Go.Proofs.YteammdkipnfmnaaGreatDoor.draw
set_option linter.unusedVariables false
set_option linter.unusedSimpArgs false

theorem prove_small (l : List Pr) (lo hi : ByteArray) (hl : l.length ≤ 8) (ht : ∀ p ∈ l, tiny p) : (0 ≤ (prove l lo hi).n ∧ (prove l lo hi).n ≤ 60) ∧ (0 ≤ (prove l lo hi).fr ∧ (prove l lo hi).fr ≤ 60) ∧ (prove l lo hi).items.length ≤ 8 ∧ ∀ x ∈ (prove l lo hi).items, tinyJ x := by
  unfold prove
  split
  · have hto := toN_le lo hi l
    refine ⟨by simp only []; omega, ?_, ?_, ?_⟩
    · simp only []
      split <;> omega
    · simp only [itemsTo_length]; omega
    · intro x hx
      simp only [itemsTo, List.mem_map, List.mem_range'_1] at hx
      obtain ⟨i, ⟨h1, h2⟩, rfl⟩ := hx
      have hil : i < l.length := by omega
      unfold itemAt
      rw [List.getElem?_eq_getElem hil]
      have htp := ht _ (List.getElem_mem hil)
      have hpl := path_length l i
      have hpd := depth_le i l.length
      exact ⟨htp, by show (path l i).length ≤ 60; omega, fun s hs => Nat.le_of_eq (path_small l i s hs)⟩
  · unfold zeroPrf
    refine ⟨by simp, by simp, by simp, ?_⟩
    intro x hx
    simp at hx
end Go.Proofs.YteammdkipnfmnaaGreatDoor.range

namespace Go.Proofs.YteammdkipnfmnaaGreatDoor.bun
open Go Go.RowKit Go.Proofs.YteammdkipnfmnaaGreatDoor.base Go.Proofs.YteammdkipnfmnaaGreatDoor.pairs Go.Proofs.YteammdkipnfmnaaGreatDoor.tree Go.Proofs.YteammdkipnfmnaaGreatDoor.lay Go.Proofs.YteammdkipnfmnaaGreatDoor.range Go.Proofs.YteammdkipnfmnaaGreatDoor.seals Go.Proofs.YteammdkipnfmnaaGreatDoor.tabs Go.Proofs.YteammdkipnfmnaaGreatDoor.draw
set_option linter.unusedVariables false
set_option linter.unusedSimpArgs false

def tinyF (f : Pf) : Prop := (0 ≤ f.1 ∧ f.1 ≤ 60) ∧ (0 ≤ f.2.1 ∧ f.2.1 ≤ 60) ∧ f.2.2.length ≤ 8 ∧ ∀ x ∈ f.2.2, tinyJ x
theorem tinyJ_itS {x : It} (h : tinyJ x) : itS x := tinyI.itS h.tiny
theorem sls_str {w w' : World} {a : Option Addr} {n : Nat} {p : List ByteArray} (h : SlS w a n p) (hk : ∀ q s, w.cell? q = some (.string s) → w'.cell? q = some (.string s)) : SlS w' a n p := by
  obtain ⟨h1, h2, h3, h4⟩ := h
  refine ⟨h1, h2, h3, fun h0 => ?_⟩
  obtain ⟨b, off, e, hc⟩ := h4 h0
  exact ⟨b, off, e, fun i hi => hk _ _ (hc i hi)⟩
section
variable {w w' : World} {P o : Nat} {z1 z2 : Int} {ia : Option Addr} {m2 c2 : Nat}
theorem slj_at3 (h0 : w.cell? ⟨P, o, none⟩ = some (.int .i64 z1)) (h1 : w.cell? ⟨P, o + 1, none⟩ = some (.int .i64 z2)) (h2 : w.cell? ⟨P, o + 2, none⟩ = some (.slice ia m2 c2)) (hs : ∀ p, p ≠ ⟨P, o, none⟩ → p ≠ ⟨P, o + 1, none⟩ → p ≠ ⟨P, o + 2, none⟩ → w'.cell? p = w.cell? p) {a : Option Addr} {m : Nat} {l : List It} (h : SlJ w a m l) : SlJ w' a m l := by
  have hstr : ∀ q s, w.cell? q = some (.string s) → w'.cell? q = some (.string s) := fun q s hq => by
    rw [hs q (fun e => by rw [e, h0] at hq; cases hq) (fun e => by rw [e, h1] at hq; cases hq) (fun e => by rw [e, h2] at hq; cases hq)]; exact hq
  obtain ⟨k1, k2, k3, k4⟩ := h
  refine ⟨k1, k2, k3, fun hp => ?_⟩
  obtain ⟨b, off, e, hc⟩ := k4 hp
  refine ⟨b, off, e, fun i hi => ?_⟩
  obtain ⟨d1, d2, pb, po, pc, d3, hS, hpc⟩ := hc i hi
  refine ⟨hstr _ _ d1, hstr _ _ d2, pb, po, pc, ?_, sls_str hS hstr, hpc⟩
  rw [hs _ (fun e => by rw [e, h0] at d3; cases d3) (fun e => by rw [e, h1] at d3; cases d3) (fun e => ?_)]
  · exact d3
  · have e1 := congrArg Addr.block e
    have e2 := congrArg Addr.off e
    simp only at e1 e2
    have e3 : off + i * 3 = o := by omega
    rw [e1, e3, h0] at d1
    cases d1
theorem set3 {a0 a1 a2 : Value} (h0 : w.cell? ⟨P, o, none⟩ = some a0) (h1 : w.cell? ⟨P, o + 1, none⟩ = some a1) (h2 : w.cell? ⟨P, o + 2, none⟩ = some a2) (x y z : Value) (hw : ((w.setCell ⟨P, o, none⟩ x).setCell ⟨P, o + 1, none⟩ y).setCell ⟨P, o + 2, none⟩ z = w') :
    (w'.cell? ⟨P, o, none⟩ = some x ∧ w'.cell? ⟨P, o + 1, none⟩ = some y ∧ w'.cell? ⟨P, o + 2, none⟩ = some z) ∧ ∀ p, p ≠ ⟨P, o, none⟩ → p ≠ ⟨P, o + 1, none⟩ → p ≠ ⟨P, o + 2, none⟩ → w'.cell? p = w.cell? p := by
  have n01 : (⟨P, o, none⟩ : Addr) ≠ ⟨P, o + 1, none⟩ := fun e => by have := congrArg Addr.off e; simp only at this; omega
  have n02 : (⟨P, o, none⟩ : Addr) ≠ ⟨P, o + 2, none⟩ := fun e => by have := congrArg Addr.off e; simp only at this; omega
  have n12 : (⟨P, o + 1, none⟩ : Addr) ≠ ⟨P, o + 2, none⟩ := fun e => by have := congrArg Addr.off e; simp only at this; omega
  subst hw
  refine ⟨⟨?_, ?_, ?_⟩, fun p p0 p1 p2 => ?_⟩
  · rw [World.cell?_setCell_other (h := n02.symm), World.cell?_setCell_other (h := n01.symm)]
    exact World.cell?_setCell_same _ _ _ h0
  · rw [World.cell?_setCell_other (h := n12.symm)]
    exact World.cell?_setCell_same _ _ _ ((World.cell?_setCell_other _ _ _ _ n01).trans h1)
  · exact World.cell?_setCell_same _ _ _ ((World.cell?_setCell_other _ _ _ _ n12).trans ((World.cell?_setCell_other _ _ _ _ n02).trans h2))
  · rw [World.cell?_setCell_other (h := p2.symm), World.cell?_setCell_other (h := p1.symm), World.cell?_setCell_other (h := p0.symm)]
theorem fj_store {n k sm sc : Nat} {N FR : Int} {sa : Option Addr} {L : List It} (h : FJ w (some ⟨P, 0, none⟩) n) (hk : k < n) (hw : ((w.setCell ⟨P, k * 3, none⟩ (.int .i64 N)).setCell ⟨P, k * 3 + 1, none⟩ (.int .i64 FR)).setCell ⟨P, k * 3 + 2, none⟩ (.slice sa sm sc) = w') (hL : SlJ w sa sm L) (hLt : ∀ x ∈ L, itS x) (hm : sm ≤ 100) (hN : (Lit.int .i64 N).wf = true) (hF : (Lit.int .i64 FR).wf = true) : FJ w' (some ⟨P, 0, none⟩) n := by
  intro h0
  obtain ⟨b, off, e, hi⟩ := h h0
  cases e
  simp only [Nat.zero_add] at hi
  obtain ⟨y1, y2, ja, jm, jc, e0, e1, e2, _⟩ := hi k hk
  obtain ⟨⟨n0, n1, n2⟩, hs⟩ := set3 e0 e1 e2 _ _ _ hw
  refine ⟨P, 0, rfl, fun i hi2 => ?_⟩
  simp only [Nat.zero_add]
  by_cases ek : i = k
  · subst ek
    exact ⟨N, FR, sa, sm, sc, n0, n1, n2, hm, hN, hF, L, slj_at3 e0 e1 e2 hs hL, hLt⟩
  · obtain ⟨x1, x2, qa, qm, qc, d0, d1, d2, hqm, k1, k2, its, hJ, hit⟩ := hi i hi2
    have ne : ∀ a b, a < 3 → b < 3 → (⟨P, i * 3 + a, none⟩ : Addr) ≠ ⟨P, k * 3 + b, none⟩ := fun a b ha hb e => by have := congrArg Addr.off e; simp only at this; omega
    exact ⟨x1, x2, qa, qm, qc, (hs _ (ne 0 0 (by omega) (by omega)) (ne 0 1 (by omega) (by omega)) (ne 0 2 (by omega) (by omega))).trans d0, (hs _ (ne 1 0 (by omega) (by omega)) (ne 1 1 (by omega) (by omega)) (ne 1 2 (by omega) (by omega))).trans d1, (hs _ (ne 2 0 (by omega) (by omega)) (ne 2 1 (by omega) (by omega)) (ne 2 2 (by omega) (by omega))).trans d2, hqm, k1, k2, its, slj_at3 e0 e1 e2 hs hJ, hit⟩
theorem fj_drop {b off n k : Nat} (h : FJ w (some ⟨b, off, none⟩) n) : FJ w (some ⟨b, off + k * 3, none⟩) (n - k) := by
  intro h0
  obtain ⟨b', off', e, hi⟩ := h (by omega)
  cases e
  refine ⟨b, off + k * 3, rfl, fun i hi2 => ?_⟩
  have := hi (k + i) (by omega)
  rw [show off + (k + i) * 3 = off + k * 3 + i * 3 by omega] at this
  exact this
end
theorem fj_nil (w : World) (a : Option Addr) : FJ w a 0 := fun h => absurd h (by omega)
theorem fj_of {w : World} {P n c : Nat} {L : List Pf} {q : Parts} (h : OwnG 64 proofR w (.slice (some ⟨P, 0, none⟩) n c) L q) (ht : ∀ f ∈ L, tinyF f) : FJ w (some ⟨P, 0, none⟩) n := by
  have hn := h.nlen
  intro h0
  refine ⟨P, 0, rfl, fun i hi => ?_⟩
  obtain ⟨us, F, hx, hc, _, _⟩ := h.open i (by omega)
  obtain ⟨u, rfl, k1, k2, v', hs', e, _, hI⟩ := proof_own.1 hx
  cases e
  have c0 := hc 0 _ rfl
  have c1 := hc 1 _ rfl
  have c2 := hc 2 _ rfl
  simp only [Nat.zero_add, Nat.add_zero] at c0 c1 c2 ⊢
  have hmi := ht L[i] (List.getElem_mem (by omega))
  rcases hI.shape with ⟨rfl, e2, _⟩ | ⟨g2, cap2, rfl, _, _⟩
  · have hJ := hI.slJ (by have := hmi.2.2.1; omega) (fun x hx => (hmi.2.2.2 x hx).tiny.lim)
    have h9 : L[i].2.2.length = 0 := by rw [e2]; rfl
    exact ⟨_, _, none, 0, 0, c0, c1, c2, by omega, k1, k2, _, hJ, fun x hx => tinyJ_itS (hmi.2.2.2 x hx)⟩
  · exact ⟨_, _, _, _, _, c0, c1, c2, by have := hmi.2.2.1; omega, k1, k2, _, hI.slJ (by have := hmi.2.2.1; omega) (fun x hx => (hmi.2.2.2 x hx).tiny.lim), fun x hx => tinyJ_itS (hmi.2.2.2 x hx)⟩
def GotBnd (w0 w : World) (gc : Nat) (a : Option Addr) (len cap : Nat) (code : List UInt8) (e : Ending) (w' : World) : Prop :=
  ∃ (no : Int) (pv : ByteArray) (ra : Option Addr) (rn rc : Nat) (pa : Option Addr) (pn pc : Nat), e = .returned (.agg #[.int .i64 no, .string pv, .slice ra rn rc, .slice pa pn pc]) ∧ (0 ≤ no ∧ no ≤ 100) ∧ sm64 pv ∧ RJ w' ra rn ∧ rn ≤ 9 ∧ rn ≤ rc ∧ FJ w' pa pn ∧ pn ≤ 9 ∧ pn ≤ pc ∧ Cur w0 w' gc a len cap code ∧ w.grownBy w' (some gc)
structure BSt (w0 w wr : World) (gc : Nat) (a : Option Addr) (len cap : Nat) (code : List UInt8) (X R : Nat) (no : Int) (pv : ByteArray) (v2 v3 : Value) (g n c : Nat) (rs : List ByteArray) (qt : Parts) (P nP cP : Nat) (L : List Pf) (q : Parts) : Prop where
  cur : Cur w0 wr gc a len cap code
  grown : w.grownBy wr (some gc)
  lt : gc < w.heap.size
  box : BoxIn X 27 [] [.int .i64 no, .string pv, v2, v3] [] wr
  ret : BoxIn R 27 [] [.int .i64 0, .string ⟨#[]⟩, .slice none 0 0, .slice none 0 0] [] wr
  txt : OwnG 9 str wr (.slice (some ⟨g, 0, none⟩) n c) rs qt
  prf : OwnG 64 proofR wr (.slice (some ⟨P, 0, none⟩) nP cP) L q
  nX : w.heap.size ≤ X
  nR : w.heap.size ≤ R
  nG : w.heap.size ≤ g
  nP : ∀ k ∈ P :: blocksOf q, w.heap.size ≤ k
  out : X ∉ P :: blocksOf q ∧ R ∉ P :: blocksOf q ∧ g ∉ P :: blocksOf q ∧ X ≠ g ∧ X ≠ R ∧ R ≠ g
  tin : ∀ f ∈ L, tinyF f
section
variable {w0 w wr w' : World} {gc : Nat} {a : Option Addr} {len cap : Nat} {code : List UInt8} {X R : Nat} {no no' : Int} {pv : ByteArray} {v2 v3 v2' v3' : Value} {g n c : Nat} {rs : List ByteArray} {qt : Parts} {P nP cP : Nat} {L : List Pf} {q : Parts}
theorem BSt.below (h : BSt w0 w wr gc a len cap code X R no pv v2 v3 g n c rs qt P nP cP L q) (hb : Below wr.heap.size wr w') : BSt w0 w w' gc a len cap code X R no pv v2 v3 g n c rs qt P nP cP L q :=
  ⟨h.cur.below hb, grown_below h.grown hb, h.lt, h.box.below hb, h.ret.below hb, h.txt.below hb, h.prf.below hb, h.nX, h.nR, h.nG, h.nP, h.out, h.tin⟩
theorem BSt.txt_blk (h : BSt w0 w wr gc a len cap code X R no pv v2 v3 g n c rs qt P nP cP L q) {k : Nat} (hk : k ∈ (Value.slice (some ⟨g, 0, none⟩) n c).ownBlock.toList ++ blocksOf qt) : k = g := by
  rcases List.mem_append.1 hk with e | e
  · simpa [Value.ownBlock] using e
  · rw [(cos.flat_str.parts h.txt).2.2.1] at e; cases e
theorem prf_blk {P nP cP : Nat} {q : Parts} {k : Nat} (hk : k ∈ (Value.slice (some ⟨P, 0, none⟩) nP cP).ownBlock.toList ++ blocksOf q) : k ∈ P :: blocksOf q := by simpa [Value.ownBlock] using hk
theorem BSt.far {y : Nat} (h : BSt w0 w wr gc a len cap code X R no pv v2 v3 g n c rs qt P nP cP L q) (hg : wr.grownBy w' (some y)) (hC : Cur w0 w' gc a len cap code) (hG : w.grownBy w' (some gc)) (h1 : X ≠ y) (h2 : R ≠ y) (h3 : g ≠ y) (h4 : y ∉ P :: blocksOf q) : BSt w0 w w' gc a len cap code X R no pv v2 v3 g n c rs qt P nP cP L q :=
  ⟨hC, hG, h.lt, h.box.grown hg (fun e => h1 (Option.some.inj e)), h.ret.grown hg (fun e => h2 (Option.some.inj e)), h.txt.keep (fun k hk => hg.block k (h.txt.at_ k hk) (fun e => h3 (by rw [← h.txt_blk hk]; exact Option.some.inj e))), h.prf.keep (fun k hk => hg.block k (h.prf.at_ k hk) (fun e => h4 (by rw [← Option.some.inj e]; exact prf_blk hk))), h.nX, h.nR, h.nG, h.nP, h.out, h.tin⟩
theorem BSt.drawn (h : BSt w0 w wr gc a len cap code X R no pv v2 v3 g n c rs qt P nP cP L q) (hC : Cur w0 w' gc a len cap code) (hg : wr.grownBy w' (some gc)) : BSt w0 w w' gc a len cap code X R no pv v2 v3 g n c rs qt P nP cP L q :=
  h.far hg hC (grownBy_trans h.grown hg) (fun e => by have := h.nX; have := h.lt; omega) (fun e => by have := h.nR; have := h.lt; omega) (fun e => by have := h.nG; have := h.lt; omega) (fun e => by have := h.nP _ e; have := h.lt; omega)
theorem BSt.put (h : BSt w0 w wr gc a len cap code X R no pv v2 v3 g n c rs qt P nP cP L q) (hX : BoxIn X 27 [] [.int .i64 no', .string pv, v2', v3'] [] w') (hg : wr.grownBy w' (some X)) : BSt w0 w w' gc a len cap code X R no' pv v2' v3' g n c rs qt P nP cP L q := by
  have hlt := h.lt
  have hge := h.cur.ge
  have hnx := h.nX
  exact ⟨h.cur.grown hg (fun e => by have := Option.some.inj e; omega) (fun k e => by have := Option.some.inj e; omega), grown_own h.grown hg hnx, hlt, hX, h.ret.grown hg (fun e => h.out.2.2.2.2.1 (Option.some.inj e).symm), h.txt.keep (fun k hk => hg.block k (h.txt.at_ k hk) (fun e => h.out.2.2.2.1 (by rw [← h.txt_blk hk]; exact (Option.some.inj e).symm))), h.prf.keep (fun k hk => hg.block k (h.prf.at_ k hk) (fun e => h.out.1 (by rw [← Option.some.inj e]; exact prf_blk hk))), hnx, h.nR, h.nG, h.nP, h.out, h.tin⟩
theorem BSt.push {us : List Value} {x : Pf} {F : List Nat} {g' n' c' : Nat} (h : BSt w0 w wr gc a len cap code X R no pv v2 v3 g n c rs qt P nP cP L q) (hF : ∀ k ∈ F, w.heap.size ≤ k ∧ k ≠ X ∧ k ≠ R ∧ k ≠ g) (hO : OwnG 64 proofR w' (.slice (some ⟨g', 0, none⟩) n' c') (L ++ [x]) (q ++ [(us, F)])) (hg : wr.grownBy w' (some P)) (hat : P = g' ∨ g' = wr.heap.size) (hx : tinyF x) :
    BSt w0 w w' gc a len cap code X R no pv v2 v3 g n c rs qt g' n' c' (L ++ [x]) (q ++ [(us, F)]) := by
  have hlt := h.lt
  have hge := h.cur.ge
  have hnp := h.nP P (by simp)
  have hs := h.grown.size
  have hblk : ∀ k, k ∈ g' :: blocksOf (q ++ [(us, F)]) → k = g' ∨ k ∈ blocksOf q ∨ k ∈ F := fun k hk => by
    rw [blocksOf_append] at hk
    rcases List.mem_cons.1 hk with e | e
    · exact .inl e
    · rcases List.mem_append.1 e with e | e
      · exact .inr (.inl e)
      · exact .inr (.inr (by simpa [blocksOf] using e))
  have hnot : ∀ k, k < wr.heap.size → k ∉ P :: blocksOf q → k ∉ F → k ∉ g' :: blocksOf (q ++ [(us, F)]) := fun k hk h1 h2 hm => by
    rcases hblk k hm with e | e | e
    · rcases hat with e2 | e2
      · exact h1 (by rw [e, ← e2]; simp)
      · omega
    · exact h1 (List.mem_cons_of_mem _ e)
    · exact h2 e
  refine ⟨h.cur.grown hg (fun e => by have := Option.some.inj e; omega) (fun k e => by have := Option.some.inj e; omega), grown_own h.grown hg hnp, hlt, h.box.grown hg (fun e => h.out.1 (by rw [Option.some.inj e]; simp)), h.ret.grown hg (fun e => h.out.2.1 (by rw [Option.some.inj e]; simp)), h.txt.keep (fun k hk => hg.block k (h.txt.at_ k hk) (fun e => h.out.2.2.1 (by rw [← h.txt_blk hk, Option.some.inj e]; simp))), hO, h.nX, h.nR, h.nG, fun k hk => ?_, ⟨hnot X h.box.lt h.out.1 (fun e => (hF X e).2.1 rfl), hnot R h.ret.lt h.out.2.1 (fun e => (hF R e).2.2.1 rfl), hnot g (h.txt.lts g (by simp)) h.out.2.2.1 (fun e => (hF g e).2.2.2 rfl), h.out.2.2.2⟩, fun f hf => ?_⟩
  · rcases hblk k hk with e | e | e
    · rcases hat with e2 | e2
      · rw [e, ← e2]; exact hnp
      · omega
    · exact h.nP k (List.mem_cons_of_mem _ e)
    · exact (hF k e).1
  · rcases List.mem_append.1 hf with e | e
    · exact h.tin f e
    · rw [List.mem_singleton.1 e]; exact hx
theorem BSt.root {us : List Value} {r : ByteArray} {F : List Nat} {g' n' c' : Nat} (h : BSt w0 w wr gc a len cap code X R no pv v2 v3 g n c rs qt P nP cP L q) (hO : OwnG 9 str w' (.slice (some ⟨g', 0, none⟩) n' c') (rs ++ [r]) (qt ++ [(us, F)])) (hg : wr.grownBy w' (some g)) (hat : g = g' ∨ g' = wr.heap.size) :
    BSt w0 w w' gc a len cap code X R no pv v2 v3 g' n' c' (rs ++ [r]) (qt ++ [(us, F)]) P nP cP L q := by
  have hlt := h.lt
  have hge := h.cur.ge
  have hng := h.nG
  have hs := h.grown.size
  have hxl := h.box.lt
  have hrl := h.ret.lt
  have hne : ∀ k, k < wr.heap.size → k ≠ g → k ≠ g' := fun k hk h1 e => by
    rcases hat with e2 | e2
    · exact h1 (by omega)
    · omega
  exact ⟨h.cur.grown hg (fun e => by have := Option.some.inj e; omega) (fun k e => by have := Option.some.inj e; omega), grown_own h.grown hg hng, hlt, h.box.grown hg (fun e => h.out.2.2.2.1 (Option.some.inj e)), h.ret.grown hg (fun e => h.out.2.2.2.2.2 (Option.some.inj e)), hO, h.prf.keep (fun k hk => hg.block k (h.prf.at_ k hk) (fun e => h.out.2.2.1 (by rw [← Option.some.inj e]; exact prf_blk hk))), h.nX, h.nR, by rcases hat with e | e <;> omega, h.nP, ⟨h.out.1, h.out.2.1, fun e => hne g' (h.prf.lts _ e) (fun e2 => h.out.2.2.1 (by rw [← e2]; exact e)) rfl, hne X hxl h.out.2.2.2.1, h.out.2.2.2.2.1, hne R hrl h.out.2.2.2.2.2⟩, h.tin⟩
end
structure FSt (w0 w wr : World) (gc : Nat) (a : Option Addr) (len cap : Nat) (code : List UInt8) (X R : Nat) (no : Int) (pv : ByteArray) (ra : Option Addr) (rn rc : Nat) (pa : Option Addr) (pn pc : Nat) : Prop where
  cur : Cur w0 wr gc a len cap code
  grown : w.grownBy wr (some gc)
  box : BoxB X no pv (.slice ra rn rc) (.slice pa pn pc) wr
  ret : BoxB R 0 ⟨#[]⟩ (.slice none 0 0) (.slice none 0 0) wr
  rj : RJ wr ra rn
  fj : FJ wr pa pn
  lt : gc < w.heap.size
  nR : w.heap.size ≤ R
  bnd : (rn ≤ 9 ∧ rn ≤ rc) ∧ pn ≤ 9 ∧ pn ≤ pc
section
variable {w0 w wr w' : World} {gc : Nat} {a : Option Addr} {len cap : Nat} {code : List UInt8} {X R : Nat} {no : Int} {pv : ByteArray} {v3 : Value} {g n c : Nat} {rs : List ByteArray} {qt : Parts} {P nP cP : Nat} {L : List Pf} {q : Parts} {ra pa : Option Addr} {rn rc pn pc : Nat}
theorem rj_of {w : World} {g n c : Nat} {rs : List ByteArray} {qt : Parts} (h : OwnG 9 str w (.slice (some ⟨g, 0, none⟩) n c) rs qt) (hs : ∀ r ∈ rs, sm64 r) : RJ w (some ⟨g, 0, none⟩) n :=
  ⟨rs, (texts_see.1 (textsR.ownSee (own_mk h : textsR.own w [.slice (some ⟨g, 0, none⟩) n c] rs _))).1, hs⟩
theorem BSt.weak (h : BSt w0 w wr gc a len cap code X R no pv (.slice (some ⟨g, 0, none⟩) n c) (.slice pa pn pc) g n c rs qt P nP cP L q) (hf : FJ wr pa pn) (hs : ∀ r ∈ rs, sm64 r) (hn : n ≤ 9) (hp : pn ≤ 9 ∧ pn ≤ pc) : FSt w0 w wr gc a len cap code X R no pv (some ⟨g, 0, none⟩) n c pa pn pc :=
  ⟨h.cur, h.grown, h.box, h.ret, rj_of h.txt hs, hf, h.lt, h.nR, ⟨hn, (texts_see.1 (textsR.ownSee (own_mk h.txt : textsR.own wr [.slice (some ⟨g, 0, none⟩) n c] rs _))).2⟩, hp⟩
theorem BSt.bent {k sm sc : Nat} {N FR : Int} {sa : Option Addr} {M : List It} (h : BSt w0 w wr gc a len cap code X R no pv (.slice (some ⟨g, 0, none⟩) n c) (.slice (some ⟨P, 0, none⟩) nP cP) g n c rs qt P nP cP L q) (hk : k < nP) (hw : ((wr.setCell ⟨P, k * 3, none⟩ (.int .i64 N)).setCell ⟨P, k * 3 + 1, none⟩ (.int .i64 FR)).setCell ⟨P, k * 3 + 2, none⟩ (.slice sa sm sc) = w') (hL : SlJ wr sa sm M) (hLt : ∀ x ∈ M, tinyI x) (hm : sm ≤ 100) (hb : Bounds N FR) (hs : ∀ r ∈ rs, sm64 r) (hn : n ≤ 9) (hp : nP ≤ 9 ∧ nP ≤ cP) : FSt w0 w w' gc a len cap code X R no pv (some ⟨g, 0, none⟩) n c (some ⟨P, 0, none⟩) nP cP := by
  have hlt := h.lt
  have hge := h.cur.ge
  have hnp := h.nP P (by simp)
  have hf := fj_store (fj_of h.prf h.tin) hk hw hL (fun x hx => tinyI.itS (hLt x hx)) hm (WalkArith.wf_i64 (by have := hb.1; omega)) (WalkArith.wf_i64 (by have := hb.2; omega))
  obtain rfl := h.prf.nlen
  have hrow := h.prf.row
  have g1 := hrow.stored (k * 3) (.int .i64 N)
  have g2 := g1.1.stored (k * 3 + 1) (.int .i64 FR)
  have g3 := g2.1.stored (k * 3 + 2) (.slice sa sm sc)
  have hg : wr.grownBy w' (some P) := by rw [← hw]; exact grownBy_trans (grownBy_trans g1.2 g2.2) g3.2
  have htx := h.txt.keep (fun k hk => hg.block k (h.txt.at_ k hk) (fun e => h.out.2.2.1 (by rw [← h.txt_blk hk, Option.some.inj e]; simp)))
  exact ⟨h.cur.grown hg (fun e => by have := Option.some.inj e; omega) (fun k e => by have := Option.some.inj e; omega), grown_own h.grown hg hnp, h.box.grown hg (fun e => h.out.1 (by rw [Option.some.inj e]; simp)), h.ret.grown hg (fun e => h.out.2.1 (by rw [Option.some.inj e]; simp)), rj_of htx hs, hf, hlt, h.nR, ⟨hn, (texts_see.1 (textsR.ownSee (own_mk h.txt : textsR.own wr [.slice (some ⟨g, 0, none⟩) n c] rs _))).2⟩, hp⟩
theorem FSt.done (h : FSt w0 w wr gc a len cap code X R no pv ra rn rc pa pn pc) (hno : 0 ≤ no ∧ no ≤ 100) (hp : sm64 pv) :
    BoxIn R 27 [] [.int .i64 no, .string pv, .slice ra rn rc, .slice pa pn pc] [] (putAll wr R 0 [.int .i64 no, .string pv, .slice ra rn rc, .slice pa pn pc]) ∧ GotBnd w0 w gc a len cap code (.returned (.agg #[.int .i64 no, .string pv, .slice ra rn rc, .slice pa pn pc])) (putAll wr R 0 [.int .i64 no, .string pv, .slice ra rn rc, .slice pa pn pc]) := by
  have hlt := h.lt
  have hge := h.cur.ge
  have hnr := h.nR
  have hS := h.ret.whole [.int .i64 no, .string pv, .slice ra rn rc, .slice pa pn pc] rfl
  exact ⟨hS.1, no, pv, ra, rn, rc, pa, pn, pc, rfl, hno, hp, rj_box h.rj h.ret hS.1 hp hS.2, h.bnd.1.1, h.bnd.1.2, fj_box h.fj h.ret hS.1 hp hS.2, h.bnd.2.1, h.bnd.2.2, h.cur.grown hS.2 (fun e => by have := Option.some.inj e; omega) (fun k e => by have := Option.some.inj e; omega), grown_own h.grown hS.2 hnr⟩
end
end Go.Proofs.YteammdkipnfmnaaGreatDoor.bun

namespace Go.Proofs.YteammdkipnfmnaaGreatDoor.ords
open Go Go.RowKit Go.Proofs.YteammdkipnfmnaaGreatDoor.base Go.Proofs.YteammdkipnfmnaaGreatDoor.pairs
set_option linter.unusedVariables false
set_option linter.unusedSimpArgs false

/-! ### slices of orders that are read -/
section
/-! ### rows of orders that a call made -/
end
end Go.Proofs.YteammdkipnfmnaaGreatDoor.ords

namespace Go.Proofs.YteammdkipnfmnaaGreatDoor.ords
open Go Go.RowKit Go.Proofs.YteammdkipnfmnaaGreatDoor.base Go.Proofs.YteammdkipnfmnaaGreatDoor.pairs
set_option linter.unusedVariables false
set_option linter.unusedSimpArgs false

end Go.Proofs.YteammdkipnfmnaaGreatDoor.ords

namespace Go.Proofs.YteammdkipnfmnaaGreatDoor.ords
open Go Go.RowKit Go.Proofs.YteammdkipnfmnaaGreatDoor.base Go.Proofs.YteammdkipnfmnaaGreatDoor.pairs
set_option linter.unusedVariables false
set_option linter.unusedSimpArgs false

end Go.Proofs.YteammdkipnfmnaaGreatDoor.ords

namespace Go.Proofs.YteammdkipnfmnaaGreatDoor.hash
open Go.RowKit Go.Proofs.YteammdkipnfmnaaGreatDoor.base
set_option linter.unusedVariables false
set_option linter.unusedSimpArgs false

set_option maxHeartbeats 400000 in
theorem spec_hash (s : ByteArray) (w : World) (hs : s.size ≤ maxLen) :
    Calls Tryz.prog 71 #[.string s] w fun e w' => e = .returned (.int .i64 (hashOf s.data.toList)) ∧ w' = w := by
  unfold maxLen at hs
  go_enter Tryz.func71, Tryz.ntmps71
  go_wp2
  go_loop [3, 4] (fun h i => ∃ k : Nat, k ≤ s.size ∧ i = .int .i64 k ∧ h = .int .i64 (hashOf (s.data.toList.take k))) (fun _ i => s.size - (intOf i).toNat)
  case atStart => exact ⟨0, Nat.zero_le _, rfl, rfl⟩
  case round =>
    obtain ⟨k, hk, rfl, rfl⟩ := hrel
    have hd := hashOf_lt (s.data.toList.take k)
    by_cases hlt : k < s.size
    · have HS : Hid (hashOf (s.data.toList.take (k + 1)) = hstep (hashOf (s.data.toList.take k)) s[k].toNat) := by rw [take_snoc s k hlt]; exact hashOf_snoc _ _
      go_wp2
      have hb : s[k].toNat < 256 := s[k].toNat_lt
      go_round
      case rel =>
        refine ⟨k + 1, by omega, by go_num, ?_⟩
        rw [HS.out, IntWalk.wrap64_in (s[k].toNat : Int) (by omega)]
        exact val_int (i64_step' _ _ hd hb)
      case measure => simp [intOf]; omega
    · go_wp2
      go_ret
      exact ⟨ret_int (by rw [List.take_of_length_le (by simp; omega)]), rfl⟩

set_option maxHeartbeats 400000 in
theorem impl_hash (s : ByteArray) (w : World) (hs : s.size ≤ maxLen) :
    Calls Tryz.prog 102 #[.string s] w fun e w' => e = .returned (.int .i64 (hashOf s.data.toList)) ∧ Below w.heap.size w w' := by
  unfold maxLen at hs
  have hconv := Lib.run_convert_string_bytes (P := Tryz.prog) w 9 22 5 s Tryz.underlying9 Tryz.underlying22 Tryz.underlying5
  go_enter Tryz.func102, Tryz.ntmps102
  go_wp2
  go_loop [3, 9] (fun h i => ∃ k : Nat, k ≤ s.size ∧ i = .int .i64 k ∧ h = .int .u32 (hashOf (s.data.toList.take k))) (fun _ i => s.size - (intOf i).toNat)
  case atStart => exact ⟨0, Nat.zero_le _, rfl, rfl⟩
  case round =>
    obtain ⟨k, hk, rfl, rfl⟩ := hrel
    have hd := hashOf_lt (s.data.toList.take k)
    by_cases hlt : k < s.size
    · have HS : Hid (hashOf (s.data.toList.take (k + 1)) = hstep (hashOf (s.data.toList.take k)) s[k].toNat) := by rw [take_snoc s k hlt]; exact hashOf_snoc _ _
      have hcell : (Lib.bytesWorld w 5 s).cell? ⟨w.heap.size, k, none⟩ = some (.int .u8 s[k].toNat) := by
        rw [Lib.bytesWorld_cell w 5 s k hlt]; simp [List.getD, hlt]; rfl
      go_wp2
      have hb : s[k].toNat < 256 := s[k].toNat_lt
      go_round
      case rel =>
        refine ⟨k + 1, by omega, by go_num, ?_⟩
        rw [HS.out]
        refine val_int ?_
        rw [← u32_step _ _ hd hb, IntKind.wrap_u32, Int.emod_eq_of_lt (a := (s[k].toNat : Int)) (by omega) (by omega)]
      case measure => simp [intOf]; omega
    · go_wp2
      go_ret
      exact ⟨ret_int (by rw [List.take_of_length_le (by simp; omega)]), below_bytesWorld _ _ _⟩
end Go.Proofs.YteammdkipnfmnaaGreatDoor.hash

namespace Go.Proofs.YteammdkipnfmnaaGreatDoor.ords
open Go Go.RowKit Go.Proofs.YteammdkipnfmnaaGreatDoor.base Go.Proofs.YteammdkipnfmnaaGreatDoor.pairs
set_option linter.unusedVariables false
set_option linter.unusedSimpArgs false

set_option maxHeartbeats 400000 in
theorem spec_shardOf (key : ByteArray) (n : Int) (w : World) (hs : key.size ≤ maxLen) (hn : (Lit.int .i64 n).wf = true) :
    Calls Tryz.prog 32 #[.string key, .int .i64 n] w fun e w' => e = .returned (.int .i64 (shardOf key n)) ∧ w' = w := by
  have hH := hashOf_lt key.data.toList
  have HC := Hid.mk' (hash.spec_hash key w hs)
  unfold shardOf
  generalize hashOf key.data.toList = H at *
  by_cases h1 : n < 1
  · rw [if_pos h1]
    go_enter Tryz.func32, Tryz.ntmps32
    go_wp2_with fail
    go_ret
    exact ⟨rfl, rfl⟩
  · rw [if_neg h1]
    have h2 : Int.tmod (H : Int) n = (H : Int) % n := Int.tmod_eq_emod_of_nonneg (by omega)
    have h3 : 0 ≤ (H : Int) % n := Int.emod_nonneg _ (by omega)
    have h4 : (H : Int) % n ≤ 4294967296 := by
      have h5 := Int.emod_add_ediv_mul (H : Int) n
      have h6 : 0 ≤ (H : Int) / n * n := Int.mul_nonneg (Int.ediv_nonneg (by omega) (by omega)) (by omega)
      omega
    generalize (H : Int) % n = R at *
    go_enter Tryz.func32, Tryz.ntmps32
    go_wp2_with fail
    refine HC.out.mono ?_
    rintro e w1 ⟨rfl, rfl⟩
    go_wp2_with fail
    go_ret
    exact ⟨rfl, rfl⟩

end Go.Proofs.YteammdkipnfmnaaGreatDoor.ords

namespace Go.Proofs.YteammdkipnfmnaaGreatDoor.stepg
open Go Go.RowKit
theorem call1 {P : Program} {ops : Array Oper} {o : Oper} {a : Act} {w : World} {K : Act → World → Prop} {Q : Exit → Act → World → Prop} {E : Prop} (hgd : o.guard = none) (f : FuncId) (x0 : Operand) (ts : Array TypeId)
    (ho : o.op = .call { callee := .value (.func f), args := #[x0], argTypes := ts }) (hent : ∀ args w, (callFunc f args).run P w = .ok (.enter f args) w)
    (v0 : Value) (h0 : a.eval x0 = v0) (R : Ending → World → Prop) (hc : Calls P f #[v0] w R)
    (h : ∀ e w', R e w' → ∃ v, e = .returned v ∧ K (a.put o.dst v) w') :
    if Region.wanted o (yielded ops a.tmps) = true then Oper.wp P o a w K Q else E := by
  have hw : Region.wanted o (yielded ops a.tmps) = true := by simp [Region.wanted, hgd]
  rw [if_pos hw]
  unfold Oper.wp execOp
  have hf : a.eval (.func f) = .func (.func f) #[] #[] := rfl
  have hof : (Deferred.ofValue (Value.func (Fn.func f) #[] #[]) #[v0]).run P w = .ok { target := .fn (.func f) #[], args := #[v0] } w := rfl
  simp only [ho, resolve, invoke, Sem.run_bind, List.map_toArray, List.map_cons, List.map_nil, h0, hf, hof, Result.andThen_ok, hent]
  show Calls P f #[v0] w _
  exact hc.mono (fun e w' he => by obtain ⟨v, rfl, hr⟩ := h e w' he; exact hr)
theorem call2 {P : Program} {ops : Array Oper} {o : Oper} {a : Act} {w : World} {K : Act → World → Prop} {Q : Exit → Act → World → Prop} {E : Prop} (hgd : o.guard = none) (f : FuncId) (x0 x1 : Operand) (ts : Array TypeId)
    (ho : o.op = .call { callee := .value (.func f), args := #[x0, x1], argTypes := ts }) (hent : ∀ args w, (callFunc f args).run P w = .ok (.enter f args) w)
    (v0 v1 : Value) (h0 : a.eval x0 = v0) (h1 : a.eval x1 = v1) (R : Ending → World → Prop) (hc : Calls P f #[v0, v1] w R)
    (h : ∀ e w', R e w' → ∃ v, e = .returned v ∧ K (a.put o.dst v) w') :
    if Region.wanted o (yielded ops a.tmps) = true then Oper.wp P o a w K Q else E := by
  have hw : Region.wanted o (yielded ops a.tmps) = true := by simp [Region.wanted, hgd]
  rw [if_pos hw]
  unfold Oper.wp execOp
  have hf : a.eval (.func f) = .func (.func f) #[] #[] := rfl
  have hof : (Deferred.ofValue (Value.func (Fn.func f) #[] #[]) #[v0, v1]).run P w = .ok { target := .fn (.func f) #[], args := #[v0, v1] } w := rfl
  simp only [ho, resolve, invoke, Sem.run_bind, List.map_toArray, List.map_cons, List.map_nil, h0, h1, hf, hof, Result.andThen_ok, hent]
  show Calls P f #[v0, v1] w _
  exact hc.mono (fun e w' he => by obtain ⟨v, rfl, hr⟩ := h e w' he; exact hr)
theorem call3 {P : Program} {ops : Array Oper} {o : Oper} {a : Act} {w : World} {K : Act → World → Prop} {Q : Exit → Act → World → Prop} {E : Prop} (hgd : o.guard = none) (f : FuncId) (x0 x1 x2 : Operand) (ts : Array TypeId)
    (ho : o.op = .call { callee := .value (.func f), args := #[x0, x1, x2], argTypes := ts }) (hent : ∀ args w, (callFunc f args).run P w = .ok (.enter f args) w)
    (v0 v1 v2 : Value) (h0 : a.eval x0 = v0) (h1 : a.eval x1 = v1) (h2 : a.eval x2 = v2) (R : Ending → World → Prop) (hc : Calls P f #[v0, v1, v2] w R)
    (h : ∀ e w', R e w' → ∃ v, e = .returned v ∧ K (a.put o.dst v) w') :
    if Region.wanted o (yielded ops a.tmps) = true then Oper.wp P o a w K Q else E := by
  have hw : Region.wanted o (yielded ops a.tmps) = true := by simp [Region.wanted, hgd]
  rw [if_pos hw]
  unfold Oper.wp execOp
  have hf : a.eval (.func f) = .func (.func f) #[] #[] := rfl
  have hof : (Deferred.ofValue (Value.func (Fn.func f) #[] #[]) #[v0, v1, v2]).run P w = .ok { target := .fn (.func f) #[], args := #[v0, v1, v2] } w := rfl
  simp only [ho, resolve, invoke, Sem.run_bind, List.map_toArray, List.map_cons, List.map_nil, h0, h1, h2, hf, hof, Result.andThen_ok, hent]
  show Calls P f #[v0, v1, v2] w _
  exact hc.mono (fun e w' he => by obtain ⟨v, rfl, hr⟩ := h e w' he; exact hr)
theorem call4 {P : Program} {ops : Array Oper} {o : Oper} {a : Act} {w : World} {K : Act → World → Prop} {Q : Exit → Act → World → Prop} {E : Prop} (hgd : o.guard = none) (f : FuncId) (x0 x1 x2 x3 : Operand) (ts : Array TypeId)
    (ho : o.op = .call { callee := .value (.func f), args := #[x0, x1, x2, x3], argTypes := ts }) (hent : ∀ args w, (callFunc f args).run P w = .ok (.enter f args) w)
    (v0 v1 v2 v3 : Value) (h0 : a.eval x0 = v0) (h1 : a.eval x1 = v1) (h2 : a.eval x2 = v2) (h3 : a.eval x3 = v3) (R : Ending → World → Prop) (hc : Calls P f #[v0, v1, v2, v3] w R)
    (h : ∀ e w', R e w' → ∃ v, e = .returned v ∧ K (a.put o.dst v) w') :
    if Region.wanted o (yielded ops a.tmps) = true then Oper.wp P o a w K Q else E := by
  have hw : Region.wanted o (yielded ops a.tmps) = true := by simp [Region.wanted, hgd]
  rw [if_pos hw]
  unfold Oper.wp execOp
  have hf : a.eval (.func f) = .func (.func f) #[] #[] := rfl
  have hof : (Deferred.ofValue (Value.func (Fn.func f) #[] #[]) #[v0, v1, v2, v3]).run P w = .ok { target := .fn (.func f) #[], args := #[v0, v1, v2, v3] } w := rfl
  simp only [ho, resolve, invoke, Sem.run_bind, List.map_toArray, List.map_cons, List.map_nil, h0, h1, h2, h3, hf, hof, Result.andThen_ok, hent]
  show Calls P f #[v0, v1, v2, v3] w _
  exact hc.mono (fun e w' he => by obtain ⟨v, rfl, hr⟩ := h e w' he; exact hr)
end Go.Proofs.YteammdkipnfmnaaGreatDoor.stepg
