/- A bundle made: mathematics, and what its walks keep. The specification's inner digests and roots. The specification's paths. The specification's keys and pairs: what is right, what is got. The specification's lists of pairs. The specification's putting of keys. -/
import Derived.Test.YteammdkipnfmnaaDoorShag
import Derived.Test.YteammdkipnfmnaaDoorShaf
import Derived.Test.YteammdkipnfmnaaDoorShae
import Derived.Test.YteammdkipnfmnaaDoorShad
import Derived.Deep.RegionHeldLaw
import Derived.Test.YteammdkipnfmnaaDoorShab
import Derived.Deep.RegionHeld3
namespace Go.Proofs.YteammdkipnfmnaaDoor.bun
open Go Go.RowKit Go.Proofs.YteammdkipnfmnaaDoor.base Go.Proofs.YteammdkipnfmnaaDoor.pairs Go.Proofs.YteammdkipnfmnaaDoor.lay Go.Proofs.YteammdkipnfmnaaDoor.range Go.Proofs.YteammdkipnfmnaaDoor.seals Go.Proofs.YteammdkipnfmnaaDoor.tabs
set_option linter.unusedVariables false
set_option linter.unusedSimpArgs false

def pfOf (lo hi : ByteArray) (t : List Pr) : Pf := ((prove t lo hi).n, (prove t lo hi).fr, (prove t lo hi).items)
def makeB (lo hi : ByteArray) (x : Seal) (ts : List (List Pr)) : Bun := if ts.length = x.2.2.2.length then (x.1, x.2.1, x.2.2.2, ts.map (pfOf lo hi)) else (0, ⟨#[]⟩, [], [])
theorem prove_wf (l : List Pr) (lo hi : ByteArray) : (Lit.int .i64 (prove l lo hi).n).wf = true ∧ (Lit.int .i64 (prove l lo hi).fr).wf = true := by
  unfold prove
  split
  · rename_i h
    have h60 := ((pairsOk_iff l).1 h).2
    have hto := toN_le lo hi l
    refine ⟨WalkArith.wf_i64 (by simp only []; omega), ?_⟩
    simp only []
    split <;> exact WalkArith.wf_i64 (by omega)
  · exact ⟨by decide, by decide⟩
def TN (w : World) (a : Option Addr) (n : Nat) (ts : List (List Pr)) : Prop :=
  ts.length = n ∧ n ≤ maxLen ∧ (0 < n → ∃ b off, a = some ⟨b, off, none⟩ ∧ ∀ i (h : i < ts.length), ∃ g o m c, w.cell? ⟨b, off + i, none⟩ = some (.slice (some ⟨g, o, none⟩) m c) ∧ SlP w (some ⟨g, o, none⟩) m ts[i] ∧ m ≤ c)
theorem TN.below {w w' : World} {a : Option Addr} {n : Nat} {ts : List (List Pr)} (h : TN w a n ts) (hb : Below w.heap.size w w') : TN w' a n ts := by
  obtain ⟨h1, h2, h3⟩ := h
  refine ⟨h1, h2, fun h0 => ?_⟩
  obtain ⟨b, off, e, hi⟩ := h3 h0
  refine ⟨b, off, e, fun i hl => ?_⟩
  obtain ⟨g, o, m, c, c0, hs, hm⟩ := hi i hl
  exact ⟨g, o, m, c, (hb.cell (p := ⟨b, off + i, none⟩) (World.block_lt_of_cell? w _ c0)).trans c0, hs.below hb, hm⟩
theorem ownG_nilB {α : Type} (ty : TypeId) (R : Rd α) (w : World) : OwnG ty R w (.slice none 0 0) [] [] :=
  ⟨rfl, World.ownsRow_nil _ _ _ _, fun i h => absurd h (by simp), by simp [blocksOf, Value.ownBlock]⟩
theorem infoStrB : (Tryd.prog.info? 9).map (fun i => (i.zero, i.size, i.bytes)) = some (some (.string ⟨#[]⟩), 1, 16) := by kernel_rfl
theorem none_strB (w : World) (g c : Nat) (ty : TypeId) : (Builtin.append_ #[22, 22] ty #[.slice (some ⟨g, 0, none⟩) 0 0, .slice none 0 c]).run Tryd.prog w = .ok (.slice (some ⟨g, 0, none⟩) 0 0) w := by kernel_rfl
theorem copy_strs {w : World} {g n c : Nat} {a : Option Addr} {l : List ByteArray} (hg : w.ownsRow 0 9 1 (.slice (some ⟨g, 0, none⟩) 0 0) 0 []) (h : SlG str w a n l) (hb : n ≤ 1099511627776) (ty : TypeId) :
    ∃ g' cap' w', (Builtin.append_ #[22, 22] ty #[.slice (some ⟨g, 0, none⟩) 0 0, .slice a n c]).run Tryd.prog w = .ok (.slice (some ⟨g', 0, none⟩) n cap') w' ∧ textsR.own w' [.slice (some ⟨g', 0, none⟩) n cap'] l [g'] ∧ w.grownBy w' (some g) ∧ (g' = g ∨ w.heap.size ≤ g') := by
  obtain ⟨g', cap', w', h1, h2, h3, h4⟩ := cos.Flat.copyRun (P := Tryd.prog) cos.flat_str (fun x u hu => by rw [List.mem_singleton.1 hu]; rfl) (by decide) (z := .string ⟨#[]⟩) Tryd.underlying22 infoStrB rfl none_strB g a n c hg h (by omega) ty
  exact ⟨g', cap', w', h1, ⟨_, _, rfl, by rw [(cos.flat_str.parts h2).2.2.1]; rfl, h2⟩, h3, h4⟩
theorem own_nilB {α : Type} (ty : TypeId) (R : Rd α) (w : World) : (lay.slice ty R).own w [.slice none 0 0] [] [] := ⟨_, [], rfl, rfl, ownG_nilB ty R w⟩
theorem row_belowB {w w' : World} {b : Nat} {e : TypeId} {s n : Nat} {v : Value} {xs : List Value} (h : w.ownsRow b e s v n xs) (hb : Below w.heap.size w w') : w'.ownsRow b e s v n xs := lay.row_of_block h (fun k hk => hb.block k (h.lt k hk).2)
theorem mem_own {v : Value} {k : Nat} {q : Parts} (e : v.ownBlock = some k) : k ∈ v.ownBlock.toList ++ blocksOf q := List.mem_append.2 (.inl (by simp [e]))
structure MSt (w0 w : World) (X R : Nat) (no : Int) (pv : ByteArray) (g rn c : Nat) (rs : List ByteArray) (v : Value) (L : List Pf) (q : Parts) : Prop where
  bel : Below w0.heap.size w0 w
  box : BoxIn X 30 [] [.int .i64 no, .string pv, .slice (some ⟨g, 0, none⟩) rn c, v] [] w
  ret : BoxIn R 30 [] [.int .i64 0, .string ⟨#[]⟩, .slice none 0 0, .slice none 0 0] [] w
  txt : textsR.own w [.slice (some ⟨g, 0, none⟩) rn c] rs [g]
  prf : OwnG 50 proofR w v L q
  newX : w0.heap.size ≤ X
  newR : w0.heap.size ≤ R
  newG : w0.heap.size ≤ g
  newP : ∀ k ∈ v.ownBlock.toList ++ blocksOf q, w0.heap.size ≤ k
  out : X ∉ v.ownBlock.toList ++ blocksOf q ∧ R ∉ v.ownBlock.toList ++ blocksOf q ∧ g ∉ v.ownBlock.toList ++ blocksOf q ∧ X ≠ g ∧ X ≠ R ∧ R ≠ g
section
variable {w0 w w' : World} {X R g rn c : Nat} {no : Int} {pv : ByteArray} {rs : List ByteArray} {v : Value} {L : List Pf} {q : Parts}
theorem MSt.below (h : MSt w0 w X R no pv g rn c rs v L q) (hb : Below w.heap.size w w') : MSt w0 w' X R no pv g rn c rs v L q :=
  ⟨h.bel.trans (hb.mono h.bel.size), h.box.below hb, h.ret.below hb, textsR.ownBelow h.txt hb, h.prf.below hb, h.newX, h.newR, h.newG, h.newP, h.out⟩
theorem MSt.start (hB : Below w0.heap.size w0 w) (hX : BoxIn X 30 [] [.int .i64 0, .string ⟨#[]⟩, .slice none 0 0, .slice none 0 0] [] w) (hR : BoxIn R 30 [] [.int .i64 0, .string ⟨#[]⟩, .slice none 0 0, .slice none 0 0] [] w) (ht : textsR.own w [.slice (some ⟨g, 0, none⟩) rn c] rs [g]) (hx : w0.heap.size ≤ X) (hr : w0.heap.size ≤ R) (hg : w0.heap.size ≤ g) (h1 : X ≠ g) (h2 : X ≠ R) (h3 : R ≠ g) :
    MSt w0 (putAll w X 0 [.int .i64 no, .string pv, .slice (some ⟨g, 0, none⟩) rn c, .slice none 0 0]) X R no pv g rn c rs (.slice none 0 0) [] [] := by
  have hS := hX.whole [.int .i64 no, .string pv, .slice (some ⟨g, 0, none⟩) rn c, .slice none 0 0] rfl
  refine ⟨hB.grown hS.2 hB.size (fun k e => by cases e; exact hx), hS.1, hR.grown hS.2 (fun e => h2 (by cases e; rfl)), textsR.ownGrown ht hS.2 (fun k hk e => h1 (by cases e; exact List.mem_singleton.1 hk)), ownG_nilB _ _ _, hx, hr, hg, fun k hk => by simp [Value.ownBlock, blocksOf] at hk, by simp [Value.ownBlock, blocksOf], by simp [Value.ownBlock, blocksOf], by simp [Value.ownBlock, blocksOf], h1, h2, h3⟩
theorem MSt.push {us : List Value} {x : Pf} {F : List Nat} {g' n cap : Nat} (h : MSt w0 w X R no pv g rn c rs v L q) (hx : proofR.own w us x F) (hF : ∀ k ∈ F, w0.heap.size ≤ k ∧ k ≠ X ∧ k ≠ R ∧ k ≠ g) (hO : OwnG 50 proofR w' (.slice (some ⟨g', 0, none⟩) n cap) (L ++ [x]) (q ++ [(us, F)])) (hg : w.grownBy w' v.ownBlock) (hat : v.ownBlock = some g' ∨ g' = w.heap.size) :
    MSt w0 (w'.setCell ⟨X, 3, none⟩ (.slice (some ⟨g', 0, none⟩) n cap)) X R no pv g rn c rs (.slice (some ⟨g', 0, none⟩) n cap) (L ++ [x]) (q ++ [(us, F)]) := by
  have hmem : ∀ k, v.ownBlock = some k → k ∈ v.ownBlock.toList ++ blocksOf q := fun k e => List.mem_append.2 (.inl (by simp [e]))
  have hbx := h.box.grown hg (fun e => h.out.1 (hmem _ e.symm))
  have hrt := h.ret.grown hg (fun e => h.out.2.1 (hmem _ e.symm))
  have htx := textsR.ownGrown h.txt hg (fun k hk e => h.out.2.2.1 (by rw [List.mem_singleton.1 hk] at e; exact hmem _ e.symm))
  have hS := hbx.set 3 (by simp) (.slice (some ⟨g', 0, none⟩) n cap)
  simp only [List.length_nil, Nat.zero_add, List.set_cons_succ, List.set_cons_zero] at hS
  have hne : ∀ k, k < w.heap.size → k ∉ v.ownBlock.toList ++ blocksOf q → k ≠ g' := fun k hk hn e => by
    rcases hat with e2 | e2
    · exact hn (by rw [e]; exact hmem _ e2)
    · omega
  have hblk : ∀ k, k ∈ (Value.slice (some ⟨g', 0, none⟩) n cap).ownBlock.toList ++ blocksOf (q ++ [(us, F)]) → k = g' ∨ k ∈ blocksOf q ∨ k ∈ F := fun k hk => by
    rw [blocksOf_append] at hk
    rcases List.mem_append.1 hk with e | e
    · left; simpa [Value.ownBlock] using e
    · rcases List.mem_append.1 e with e | e
      · exact .inr (.inl e)
      · exact .inr (.inr (by simpa [blocksOf] using e))
  have hnot : ∀ k, k < w.heap.size → k ∉ v.ownBlock.toList ++ blocksOf q → k ∉ F → k ∉ (Value.slice (some ⟨g', 0, none⟩) n cap).ownBlock.toList ++ blocksOf (q ++ [(us, F)]) := fun k hk h1 h2 hm => by
    rcases hblk k hm with e | e | e
    · exact hne k hk h1 e
    · exact h1 (List.mem_append.2 (.inr e))
    · exact h2 e
  have hX := hnot X h.box.lt h.out.1 (fun e => (hF X e).2.1 rfl)
  have hR := hnot R h.ret.lt h.out.2.1 (fun e => (hF R e).2.2.1 rfl)
  have hG := hnot g (textsR.ownLt h.txt g (by simp)) h.out.2.2.1 (fun e => (hF g e).2.2.2 rfl)
  have hB := h.bel.grown hg h.bel.size (fun k e => h.newP k (hmem k e))
  have hs0 := h.bel.size
  refine ⟨hB.grown hS.2 hB.size (fun k e => by cases e; exact h.newX), hS.1, hrt.grown hS.2 (fun e => h.out.2.2.2.2.1 (by cases e; rfl)), textsR.ownGrown htx hS.2 (fun k hk e => h.out.2.2.2.1 (by cases e; exact List.mem_singleton.1 hk)), hO.keep (fun k hk => hS.2.block k (hO.at_ k hk) (fun e => hX (by cases e; exact hk))), h.newX, h.newR, h.newG, fun k hk => ?_, hX, hR, hG, h.out.2.2.2⟩
  rcases hblk k hk with e | e | e
  · rcases hat with e2 | e2
    · rw [e]; exact h.newP g' (hmem _ e2)
    · omega
  · exact h.newP k (List.mem_append.2 (.inr e))
  · exact (hF k e).1
theorem MSt.done (h : MSt w0 w X R no pv g rn c rs v L q) (hno : (Lit.int .i64 no).wf = true) (hp : pv.size ≤ maxLen) :
    BoxIn R 30 [] [.int .i64 no, .string pv, .slice (some ⟨g, 0, none⟩) rn c, v] [] (putAll w R 0 [.int .i64 no, .string pv, .slice (some ⟨g, 0, none⟩) rn c, v]) ∧ bundleR.own (putAll w R 0 [.int .i64 no, .string pv, .slice (some ⟨g, 0, none⟩) rn c, v]) [.int .i64 no, .string pv, .slice (some ⟨g, 0, none⟩) rn c, v] (no, pv, rs, L) (g :: (v.ownBlock.toList ++ blocksOf q)) ∧ (∀ k ∈ g :: (v.ownBlock.toList ++ blocksOf q), w0.heap.size ≤ k) ∧ Below w0.heap.size w0 (putAll w R 0 [.int .i64 no, .string pv, .slice (some ⟨g, 0, none⟩) rn c, v]) := by
  have hS := h.ret.whole [.int .i64 no, .string pv, .slice (some ⟨g, 0, none⟩) rn c, v] rfl
  have hn := h.prf.nodup
  refine ⟨hS.1, bundle_own.2 ⟨_, v, [g], v.ownBlock.toList ++ blocksOf q, rfl, rfl, hno, hp, textsR.ownGrown h.txt hS.2 (fun k hk e => h.out.2.2.2.2.2 (by cases e; exact List.mem_singleton.1 hk)), own_mk (h.prf.keep (fun k hk => hS.2.block k (h.prf.at_ k hk) (fun e => h.out.2.1 (by cases e; exact hk)))), List.nodup_cons.2 ⟨h.out.2.2.1, hn⟩⟩, fun k hk => ?_, h.bel.grown hS.2 h.bel.size (fun k e => by cases e; exact h.newR)⟩
  rcases List.mem_cons.1 hk with e | e
  · rw [e]; exact h.newG
  · exact h.newP k e
end
theorem infoPf : (Tryd.prog.info? 50).map (fun i => (i.zero, i.size, i.bytes)) = some (some (.agg #[.int .i64 0, .int .i64 0, .slice none 0 0]), 3, 40) := by kernel_rfl
end Go.Proofs.YteammdkipnfmnaaDoor.bun

namespace Go.Proofs.YteammdkipnfmnaaDoor.tree
open Go Go.RowKit Go.Proofs.YteammdkipnfmnaaDoor.base Go.Proofs.YteammdkipnfmnaaDoor.pairs Go.Proofs.YteammdkipnfmnaaDoor.puttext Go.Proofs.YteammdkipnfmnaaDoor.putnum
set_option linter.unusedVariables false
set_option linter.unusedSimpArgs false

theorem slp_take {w : World} {b off : Nat} {l : List Pr} (h : SlP w (some ⟨b, off, none⟩) l.length l) (k : Nat) (hk : k ≤ l.length) : SlP w (some ⟨b, off, none⟩) (l.take k).length (l.take k) := by
  refine ⟨rfl, by have := h.2.1; simp; omega, fun p hp => h.2.2.1 p (List.mem_of_mem_take hp), fun _ => ⟨b, off, rfl, fun i hi => ?_⟩⟩
  rw [List.getElem_take]
  exact h.cells i (by simp at hi; omega)
theorem slp_drop {w : World} {b off : Nat} {l : List Pr} (h : SlP w (some ⟨b, off, none⟩) l.length l) (k : Nat) : SlP w (some ⟨b, off + k * 2, none⟩) (l.drop k).length (l.drop k) := by
  refine ⟨rfl, by have := h.2.1; simp; omega, fun p hp => h.2.2.1 p (List.mem_of_mem_drop hp), fun _ => ⟨b, _, rfl, fun i hi => ?_⟩⟩
  have := h.cells (k + i) (by simp at hi; omega)
  rw [List.getElem_drop, show off + k * 2 + i * 2 = off + (k + i) * 2 by omega]
  exact this

set_option maxRecDepth 100000 in
set_option maxHeartbeats 2000000 in
theorem spec_l4Inner (m : Nat) : ∀ (l : List Pr), l.length = m → m ≤ 60 → (∀ p ∈ l, lim p) → ∀ (b off cap : Nat) (w : World), SlP w (some ⟨b, off, none⟩) l.length l → l.length ≤ cap →
    Calls Tryd.prog 47 #[.slice (some ⟨b, off, none⟩) l.length cap] w fun e w' => e = .returned (.string (inner l)) ∧ Below w.heap.size w w' := by
  induction m using Nat.strongRecOn with
  | _ m ih =>
    intro l hlm h60 hlim b off cap w h hcap
    by_cases h0 : l.length = 0
    · obtain rfl : l = [] := List.eq_nil_of_length_eq_zero h0
      have hba : Below w.heap.size w (w.alloc (.cells #[] 5)) := (Below.refl _ _).alloc (Nat.le_refl _) _
      have HD := Hid.mk' (sha.spec_digest w.heap.size 0 0 0 [] _ (own_made w w.heap.size (Nat.le_refl _)).sl (by omega))
      rw [inner_nil]
      clear ih hlim h hlm
      go_enter Tryd.func47, Tryd.ntmps47
      go_wp2_with fail
      refine HD.out.mono ?_
      rintro e w2 ⟨rfl, hb2⟩
      have hB2 : Below w.heap.size w w2 := hba.trans (hb2.mono hba.size)
      go_wp2_with fail
      go_ret
      exact ⟨rfl, hB2⟩
    by_cases h1 : l.length = 1
    · obtain ⟨p, rfl⟩ : ∃ p, l = [p] := List.length_eq_one_iff.1 h1
      obtain ⟨c1, c2⟩ := h.cells 0 (by simp)
      have HL := Hid.mk' (spec_leafOf p w (hlim p (by simp)))
      rw [inner_one]
      simp only [List.getElem_cons_zero, Nat.zero_mul, Nat.add_zero] at c1 c2
      clear ih hlim h hlm
      go_enter Tryd.func47, Tryd.ntmps47
      go_wp2_with fail
      refine HL.out.mono ?_
      rintro e w2 ⟨rfl, hb2⟩
      go_wp2_with fail
      go_ret
      exact ⟨rfl, hb2⟩
    have h2 : 2 ≤ l.length := by omega
    have hbd := half_bd l.length h2
    have HH := Hid.mk' (spec_half l.length w h2 (by omega))
    have hst := inner_step l h2
    obtain ⟨k, hk⟩ : ∃ k, half l.length = k := ⟨_, rfl⟩
    rw [hk] at hbd HH hst
    have hltk : (l.take k).length = k := by simp; omega
    have hldk : (l.drop k).length = l.length - k := by simp
    have hs1 := inner_size (l.take k)
    have hs2 := inner_size (l.drop k)
    have hB : w.heap.size ≤ w.heap.size := Nat.le_refl _
    have hc1 : ∀ x : last.On w.heap.size w, Calls Tryd.prog 47 #[.slice (some ⟨b, off, none⟩) k cap] x.w fun e w' => e = .returned (.string (inner (l.take k))) ∧ ∃ y : last.On w.heap.size w, w' = y.w := fun x => last.Calls.on x (Nat.le_refl _) (by
      have := ih k (by omega) (l.take k) hltk (by omega) (fun p hp => hlim p (List.mem_of_mem_take hp)) b off cap x.w (slp_take (h.below x.2) k (by omega)) (by omega)
      rw [hltk] at this; exact this)
    have hc2 : ∀ x : last.On w.heap.size w, Calls Tryd.prog 47 #[.slice (some ⟨b, off + k * 2, none⟩) (l.length - k) (cap - k)] x.w fun e w' => e = .returned (.string (inner (l.drop k))) ∧ ∃ y : last.On w.heap.size w, w' = y.w := fun x => last.Calls.on x (Nat.le_refl _) (by
      have := ih (l.length - k) (by omega) (l.drop k) hldk (by omega) (fun p hp => hlim p (List.mem_of_mem_drop hp)) b (off + k * 2) (cap - k) x.w (slp_drop (h.below x.2) k) (by omega)
      rw [hldk] at this; exact this)
    have hc3 : ∀ x : last.On w.heap.size w, Calls Tryd.prog 59 #[.string (inner (l.take k)), .string (inner (l.drop k))] x.w fun e w' => e = .returned (.string (inner l)) ∧ ∃ y : last.On w.heap.size w, w' = y.w := fun x => last.Calls.on x (Nat.le_refl _) (by
      rw [hst]; exact spec_nodeOf _ _ x.w (by omega) (by omega))
    have q1 : (k : Int) ≤ (cap : Int) := by omega
    have q2 : ¬ cap = k := by omega
    have q3 : (k : Int) ≤ (l.length : Int) := by omega
    have q4 : ¬ (l.length : Int) = 0 := by omega
    have q5 : ¬ (l.length : Int) = 1 := by omega
    generalize inner (l.take k) = x1 at *
    generalize inner (l.drop k) = x2 at *
    generalize inner l = x0 at *
    clear ih hlim h hlm hst hltk hldk hs1 hs2 hk
    go_enter Tryd.func47, Tryd.ntmps47
    go_wp2_with fail
    refine HH.out.mono ?_
    rintro e w2 ⟨rfl, hw2⟩
    subst hw2
    go_wp2_with fail
    have hinh := last.On.inh w2.heap.size w2
    refine last.wp_region_on w2.heap.size (by kernel_rfl) (by kernel_rfl) ?_
    repeat (go_big_quiet_step ((first | (go_at_call 59; exact hc3 _) | (go_at_call 47; first | (with_reducible exact hc1 _) | (with_reducible exact hc2 _)))))
    refine wpQuiet_nil ?_
    intro w5 hw5
    obtain ⟨x5, hw5⟩ := hw5
    subst hw5
    have hB5 : Below w2.heap.size w2 x5.w := x5.2
    go_wp2_with fail
    go_ret
    exact ⟨rfl, hB5⟩




end Go.Proofs.YteammdkipnfmnaaDoor.tree

namespace Go.Proofs.YteammdkipnfmnaaDoor.tree
open Go Go.RowKit Go.Proofs.YteammdkipnfmnaaDoor.base Go.Proofs.YteammdkipnfmnaaDoor.pairs Go.Proofs.YteammdkipnfmnaaDoor.puttext Go.Proofs.YteammdkipnfmnaaDoor.putnum
set_option linter.unusedVariables false
set_option linter.unusedSimpArgs false

theorem max32 {s : ByteArray} (h : s.size = 32) : s.size ≤ maxLen := by unfold maxLen; omega

set_option maxRecDepth 100000 in
set_option maxHeartbeats 4000000 in
theorem spec_l4Path (m : Nat) : ∀ (l : List Pr), l.length = m → m ≤ 60 → (∀ p ∈ l, lim p) → ∀ (i b off cap : Nat) (w : World), i < l.length → SlP w (some ⟨b, off, none⟩) l.length l → l.length ≤ cap →
    Calls Tryd.prog 34 #[.slice (some ⟨b, off, none⟩) l.length cap, .int .i64 (i : Int)] w fun e w' =>
      ∃ g' n' cap', e = .returned (.slice (some ⟨g', 0, none⟩) n' cap') ∧ OwnS w' w.heap.size g' n' cap' (path l i) ∧ Below w.heap.size w w' := by
  obtain ⟨i0, hi, hz0, hz1, hz2⟩ := info_parts info9
  induction m using Nat.strongRecOn with
  | _ m ih =>
    intro l hlm h60 hlim i b off cap w hil h hcap
    by_cases h2 : l.length < 2
    · rw [path_low l i h2]
      have h2i : (l.length : Int) < 2 := by omega
      clear ih hlim h hlm
      go_enter Tryd.func34, Tryd.ntmps34
      go_wp2_with fail
      go_ret
      exact ⟨w.heap.size, 0, 0, rfl, ownS_made w _ (Nat.le_refl _), (Below.refl _ _).alloc (Nat.le_refl _) _⟩
    have h2' : 2 ≤ l.length := by omega
    have hbd := half_bd l.length h2'
    have HH := Hid.mk' (spec_half l.length w h2' (by omega))
    have hpl := path_left l i h2'
    have hpr := path_right l i h2'
    obtain ⟨k, hk⟩ : ∃ k, half l.length = k := ⟨_, rfl⟩
    rw [hk] at hbd HH hpl hpr
    have hltk : (l.take k).length = k := by simp; omega
    have hldk : (l.drop k).length = l.length - k := by simp
    have q1 : (k : Int) ≤ (cap : Int) := by omega
    have q2 : ¬ cap = k := by omega
    have q3 : (k : Int) ≤ (l.length : Int) := by omega
    have q4 : ¬ (l.length : Int) < 2 := by omega
    by_cases hik : i < k
    · have hq := hpl hik
      have HP : Hid (∀ wx, Below w.heap.size w wx → Calls Tryd.prog 34 #[.slice (some ⟨b, off, none⟩) k cap, .int .i64 (i : Int)] wx fun e w' =>
          ∃ g' n' cap', e = .returned (.slice (some ⟨g', 0, none⟩) n' cap') ∧ OwnS w' wx.heap.size g' n' cap' (path (l.take k) i) ∧ Below wx.heap.size wx w') := fun wx hx => by
        have := ih k (by omega) (l.take k) hltk (by omega) (fun p hp => hlim p (List.mem_of_mem_take hp)) i b off cap wx (by omega) (slp_take (h.below hx) k (by omega)) (by omega)
        rw [hltk] at this; exact this
      have HI : Hid (∀ wx, Below w.heap.size w wx → Calls Tryd.prog 47 #[.slice (some ⟨b, off + k * 2, none⟩) (l.length - k) (cap - k)] wx fun e w' => e = .returned (.string (inner (l.drop k))) ∧ Below wx.heap.size wx w') := fun wx hx => by
        have := spec_l4Inner (l.length - k) (l.drop k) hldk (by omega) (fun p hp => hlim p (List.mem_of_mem_drop hp)) b (off + k * 2) (cap - k) wx (slp_drop (h.below hx) k) (by omega)
        rw [hldk] at this; exact this
      have hy2 := max32 (inner_size (l.drop k))
      have hyl := path_length (l.take k) i
      have hyd := depth_le i (l.take k).length
      have hy1 : (path (l.take k) i).length ≤ 60 := by omega
      rw [hq]
      have hiki : (i : Int) < (k : Int) := by omega
      generalize path (l.take k) i = y1 at *
      generalize inner (l.drop k) = y2 at *
      clear ih hlim h hlm hpl hpr hltk hldk hk hq hyl hyd
      go_enter Tryd.func34, Tryd.ntmps34
      go_wp2_with fail
      refine HH.out.mono ?_
      rintro e w2 ⟨rfl, hw2⟩
      subst hw2
      have hd : Below w2.heap.size w2 w2.drew := (Below.refl _ _).drew
      go_wp2_with (at_builtin; fail)
      go_region_held3 (fun w' => True) (trivial) (first | (refine step_append_own rfl (.tmp 20) (.tmp 25) 22 rfl w2.heap.size 9 i0 (.string ⟨#[]⟩) 1 16 Tryd.underlying22 hi hz0 hz1 hz2 rfl (by decide) _ _ _ rfl (hO6.2.2.alloc _) ⟨w6.heap.size, 0, none⟩ 1 1 [.string y2] rfl rfl (cell_one_new _ _ _) (str_oneCell _) (by unfold maxLen; omega) (by omega) (le_alloc _ _ hs6) ?_; intro v7 w7 hown hgrow hnn) | (go_at_call 34; refine (HP.out _ hd).mono ?_; rintro e w5 ⟨g5, n5, cp5, rfl, hO5, hb5⟩; have hB5 := hd.trans (hb5.mono hd.size)) | (go_at_call 47; refine (HI.out _ hB5).mono ?_; rintro e w6 ⟨rfl, hb6⟩; have hO6 := (hO5.mono (base' := w2.heap.size) hd.size).below hb6; have hB6 := hB5.trans (hb6.mono hB5.size); have hs6 := hB6.size; have hn6 : n5 ≤ 60 := by have := hO5.1; omega))
      all_goals
        have hgr2 : (w6.alloc (.cells #[.string y2] 9)).grownBy w7 (some g5) := hgrow
        have hnn' : ¬ v7 = .slice none 0 0 := by simpa using hnn
        have hsm : ∀ s ∈ y1 ++ [y2], s.size ≤ maxLen := fun s hs => by
          rcases List.mem_append.1 hs with h1 | h1
          · exact hO6.2.1 s h1
          · rw [List.mem_singleton.1 h1]; exact hy2
        obtain ⟨g7, cap7, hv, hO7⟩ := ownS_val (ss := y1 ++ [y2]) (n := n5 + 1) (by have := hO6.1; simp; omega) hsm hnn' (by simpa [strVals] using hown)
        subst hv
        have hB7 : Below w2.heap.size w2 w7 := (hB6.alloc hs6 _).grown hgr2 (le_alloc _ _ hs6) (fun k e => by cases e; exact hO6.lt.1)
        have HO7 := Hid.mk' hO7
        clear hown hgrow hgr2 hnn hnn' hO7 hO6 hO5 hb5 hb6 hB5 hB6
        go_wp2_with fail
        go_ret
        exact ⟨g7, _, cap7, rfl, HO7.out, hB7⟩
    · have hq := hpr hik
      obtain ⟨j, hj⟩ : ∃ j, i - k = j := ⟨_, rfl⟩
      have hji : (i : Int) - (k : Int) = (j : Int) := by omega
      have hjw : IntKind.i64.wrap (j : Int) = (j : Int) := by rw [IntKind.wrap_i64]; omega
      rw [hj] at hq
      have HP : Hid (∀ wx, Below w.heap.size w wx → Calls Tryd.prog 34 #[.slice (some ⟨b, off + k * 2, none⟩) (l.length - k) (cap - k), .int .i64 (j : Int)] wx fun e w' =>
          ∃ g' n' cap', e = .returned (.slice (some ⟨g', 0, none⟩) n' cap') ∧ OwnS w' wx.heap.size g' n' cap' (path (l.drop k) j) ∧ Below wx.heap.size wx w') := fun wx hx => by
        have := ih (l.length - k) (by omega) (l.drop k) hldk (by omega) (fun p hp => hlim p (List.mem_of_mem_drop hp)) j b (off + k * 2) (cap - k) wx (by omega) (slp_drop (h.below hx) k) (by omega)
        rw [hldk] at this; exact this
      have HI : Hid (∀ wx, Below w.heap.size w wx → Calls Tryd.prog 47 #[.slice (some ⟨b, off, none⟩) k cap] wx fun e w' => e = .returned (.string (inner (l.take k))) ∧ Below wx.heap.size wx w') := fun wx hx => by
        have := spec_l4Inner k (l.take k) hltk (by omega) (fun p hp => hlim p (List.mem_of_mem_take hp)) b off cap wx (slp_take (h.below hx) k (by omega)) (by omega)
        rw [hltk] at this; exact this
      have hy2 := max32 (inner_size (l.take k))
      have hyl := path_length (l.drop k) j
      have hyd := depth_le j (l.drop k).length
      have hy1 : (path (l.drop k) j).length ≤ 60 := by omega
      rw [hq]
      have hiki : ¬ (i : Int) < (k : Int) := by omega
      generalize path (l.drop k) j = y1 at *
      generalize inner (l.take k) = y2 at *
      clear ih hlim h hlm hpl hpr hltk hldk hk hq hyl hyd hj
      go_enter Tryd.func34, Tryd.ntmps34
      go_wp2_with fail
      refine HH.out.mono ?_
      rintro e w2 ⟨rfl, hw2⟩
      subst hw2
      have hd : Below w2.heap.size w2 w2.drew := (Below.refl _ _).drew
      go_wp2_with (at_builtin; fail)
      go_region_held3 (fun w' => True) (trivial) (first | (refine step_append_own rfl (.tmp 33) (.tmp 38) 22 rfl w2.heap.size 9 i0 (.string ⟨#[]⟩) 1 16 Tryd.underlying22 hi hz0 hz1 hz2 rfl (by decide) _ _ _ rfl (hO6.2.2.alloc _) ⟨w6.heap.size, 0, none⟩ 1 1 [.string y2] rfl rfl (cell_one_new _ _ _) (str_oneCell _) (by unfold maxLen; omega) (by omega) (le_alloc _ _ hs6) ?_; intro v7 w7 hown hgrow hnn) | (go_at_call 34; refine (HP.out _ hd).mono ?_; rintro e w5 ⟨g5, n5, cp5, rfl, hO5, hb5⟩; have hB5 := hd.trans (hb5.mono hd.size)) | (go_at_call 47; refine (HI.out _ hB5).mono ?_; rintro e w6 ⟨rfl, hb6⟩; have hO6 := (hO5.mono (base' := w2.heap.size) hd.size).below hb6; have hB6 := hB5.trans (hb6.mono hB5.size); have hs6 := hB6.size; have hn6 : n5 ≤ 60 := by have := hO5.1; omega))
      all_goals
        have hgr2 : (w6.alloc (.cells #[.string y2] 9)).grownBy w7 (some g5) := hgrow
        have hnn' : ¬ v7 = .slice none 0 0 := by simpa using hnn
        have hsm : ∀ s ∈ y1 ++ [y2], s.size ≤ maxLen := fun s hs => by
          rcases List.mem_append.1 hs with h1 | h1
          · exact hO6.2.1 s h1
          · rw [List.mem_singleton.1 h1]; exact hy2
        obtain ⟨g7, cap7, hv, hO7⟩ := ownS_val (ss := y1 ++ [y2]) (n := n5 + 1) (by have := hO6.1; simp; omega) hsm hnn' (by simpa [strVals] using hown)
        subst hv
        have hB7 : Below w2.heap.size w2 w7 := (hB6.alloc hs6 _).grown hgr2 (le_alloc _ _ hs6) (fun k e => by cases e; exact hO6.lt.1)
        have HO7 := Hid.mk' hO7
        clear hown hgrow hgr2 hnn hnn' hO7 hO6 hO5 hb5 hb6 hB5 hB6
        go_wp2_with fail
        go_ret
        exact ⟨g7, _, cap7, rfl, HO7.out, hB7⟩

end Go.Proofs.YteammdkipnfmnaaDoor.tree

namespace Go.Proofs.YteammdkipnfmnaaDoor.pairs
open Go Go.RowKit Go.Proofs.YteammdkipnfmnaaDoor.base
set_option linter.unusedVariables false
set_option linter.unusedSimpArgs false

theorem bcell {W w1 : World} (hb : Below W.heap.size W w1) : (∀ b o, b < W.heap.size → w1.cell? ⟨b, o, none⟩ = W.cell? ⟨b, o, none⟩) :=
  fun b o h => hb.cell (p := ⟨b, o, none⟩) h
set_option maxHeartbeats 400000 in
theorem s_in (x a b : Int) (w : World) (hx : -1000 ≤ x ∧ x ≤ 1099511627776) (ha : 0 ≤ a ∧ a ≤ 1000) (hb : 0 ≤ b ∧ b ≤ 1000) :
    Calls Tryd.prog 67 #[.int .i64 x, .int .i64 a, .int .i64 b] w fun e w' => e = .returned (.bool (decide (a ≤ x ∧ x ≤ b))) ∧ w' = w := by
  by_cases h1 : a ≤ x
  · by_cases h2 : x ≤ b
    · go_enter Tryd.func67, Tryd.ntmps67
      go_wp2
      go_ret
      exact ⟨ret_bool (by simp [h1, h2]), rfl⟩
    · go_enter Tryd.func67, Tryd.ntmps67
      go_wp2
      go_ret
      exact ⟨ret_bool (by simp [h1, h2]), rfl⟩
  · go_enter Tryd.func67, Tryd.ntmps67
    go_wp2
    go_ret
    exact ⟨ret_bool (by have h3 : ¬ a ≤ x := by omega
                        simp [h3]), rfl⟩

theorem keyAll_drop (s : ByteArray) (k : Nat) (h : k < s.size) : keyAll (s.data.toList.drop k) = (keyCh s[k].toNat && keyAll (s.data.toList.drop (k + 1))) := by
  rw [List.drop_eq_getElem_cons (by simpa using h)]; rfl

set_option maxRecDepth 100000 in
set_option maxHeartbeats 1000000 in
theorem spec_keyOk (s : ByteArray) (w : World) (hs : s.size ≤ 1099511627776) :
    Calls Tryd.prog 56 #[.string s] w fun e w' => e = .returned (.bool (keyOk s)) ∧ w' = w := by
  generalize hR : keyAll s.data.toList = R
  have HR := Hid.mk' hR
  clear hR
  go_enter Tryd.func56, Tryd.ntmps56
  go_wp2
  go_loop [3] (fun i => ∃ k : Nat, k ≤ s.size ∧ i = .int .i64 (k : Int) ∧ keyAll (s.data.toList.drop k) = R) (fun i => s.size - (intOf i).toNat)
  case atStart => exact ⟨0, Nat.zero_le _, rfl, HR.out⟩
  case round =>
    obtain ⟨k, hk, rfl, hr⟩ := hrel
    by_cases hlt : k < s.size
    · have hst := keyAll_drop s k hlt
      rw [hr] at hst
      have hc := s[k].toNat_lt
      generalize hC : s[k].toNat = c at *
      have HST := Hid.mk' hst
      have HC := Hid.mk' hC
      clear hst hr
      have hki : (k : Int) < (s.size : Int) := by omega
      by_cases h1 : 97 ≤ c ∧ c ≤ 122
      · have HF : Hid (keyAll (s.data.toList.drop (k + 1)) = R) := by
          show _ = _
          have := HST.out; rw [show keyCh c = true by simp [keyCh, h1]] at this; simpa using this.symm
        have hl := s_in (c : Int) 97 122 w (by omega) (by omega) (by omega)
        rw [decide_eq_true (by omega)] at hl
        have HL := Hid.mk' hl
        clear hl HST
        go_wp2_with fail
        refine HL.out.mono ?_
        rintro e w1 ⟨rfl, rfl⟩
        go_wp2_with fail
        go_round
        case rel => exact ⟨k + 1, by omega, by go_num, HF.out⟩
        case measure => simp [intOf]; omega
      · have hl := s_in (c : Int) 97 122 w (by omega) (by omega) (by omega)
        rw [decide_eq_false (by omega)] at hl
        have HL := Hid.mk' hl
        clear hl
        by_cases h2 : 48 ≤ c ∧ c ≤ 57
        · have HF : Hid (keyAll (s.data.toList.drop (k + 1)) = R) := by
            show _ = _
            have := HST.out; rw [show keyCh c = true by simp [keyCh, h2]] at this; simpa using this.symm
          have hl := s_in (c : Int) 48 57 w (by omega) (by omega) (by omega)
          rw [decide_eq_true (by omega)] at hl
          have HL2 := Hid.mk' hl
          clear hl HST
          go_wp2_with fail
          refine HL.out.mono ?_
          rintro e w1 ⟨rfl, rfl⟩
          go_wp2_with fail
          refine HL2.out.mono ?_
          rintro e w1 ⟨rfl, rfl⟩
          go_wp2_with fail
          go_round
          case rel => exact ⟨k + 1, by omega, by go_num, HF.out⟩
          case measure => simp [intOf]; omega
        · have HF : Hid (R = false) := by
            show _ = _
            have := HST.out; rw [show keyCh c = false by simp only [keyCh, h1, h2]; rfl] at this; simpa using this
          have hl := s_in (c : Int) 48 57 w (by omega) (by omega) (by omega)
          rw [decide_eq_false (by omega)] at hl
          have HL2 := Hid.mk' hl
          clear hl HST
          go_wp2_with fail
          refine HL.out.mono ?_
          rintro e w1 ⟨rfl, rfl⟩
          go_wp2_with fail
          refine HL2.out.mono ?_
          rintro e w1 ⟨rfl, rfl⟩
          go_wp2_with fail
          go_ret
          exact ⟨ret_bool (by unfold keyOk; rw [HR.out, HF.out]; rfl), rfl⟩
    · have HF : Hid (R = true) := by show _ = _; rw [← hr, List.drop_eq_nil_of_le (by simp; omega)]; rfl
      have hl := s_in (s.size : Int) 1 12 w (by omega) (by omega) (by omega)
      rw [show decide ((1 : Int) ≤ (s.size : Int) ∧ (s.size : Int) ≤ 12) = decide (1 ≤ s.size ∧ s.size ≤ 12) by rw [decide_eq_decide]; omega] at hl
      have HL := Hid.mk' hl
      clear hl hr
      go_wp2_with fail
      refine HL.out.mono ?_
      rintro e w1 ⟨rfl, rfl⟩
      go_wp2_with fail
      go_ret
      exact ⟨ret_bool (by unfold keyOk; rw [HR.out, HF.out]; simp), rfl⟩

set_option maxHeartbeats 400000 in
theorem spec_pairOk (p : Pr) (w : World) (hp : small p) (hs : p.1.size ≤ 1099511627776) :
    Calls Tryd.prog 45 #[.agg #[.string p.1, .string p.2]] w fun e w' => e = .returned (.bool (pairOk p)) ∧ Below w.heap.size w w' := by
  have h2 := hp.2
  unfold maxLen at h2
  have hba : Below w.heap.size w (w.alloc (.cells #[.string p.1, .string p.2] 65)) := (Below.refl _ _).alloc (Nat.le_refl _) _
  have hk := spec_keyOk p.1 (w.alloc (.cells #[.string p.1, .string p.2] 65)) hs
  cases hK : keyOk p.1
  · rw [hK] at hk
    have HK := Hid.mk' hk
    have H1 := Hid.mk' hK
    clear hk hK
    go_enter Tryd.func45, Tryd.ntmps45
    go_wp2_with fail
    refine HK.out.mono ?_
    rintro e w1 ⟨rfl, rfl⟩
    go_wp2_with fail
    go_ret
    exact ⟨ret_bool (by unfold pairOk; rw [H1.out]; rfl), hba⟩
  · rw [hK] at hk
    have HK := Hid.mk' hk
    have H1 := Hid.mk' hK
    clear hk hK
    go_enter Tryd.func45, Tryd.ntmps45
    go_wp2_with fail
    refine HK.out.mono ?_
    rintro e w1 ⟨rfl, rfl⟩
    go_wp2_with fail
    go_ret
    exact ⟨ret_bool (by unfold pairOk; rw [H1.out]; simp; omega), hba⟩

theorem str_ne {a b : ByteArray} (h : a ≠ b) : (a.toList == b.toList) = false := by
  rw [beq_eq_false_iff_ne]; intro e; rw [ByteArray.toList_eq, ByteArray.toList_eq] at e; exact h (bytes_ext e)


set_option maxHeartbeats 1000000 in
theorem spec_l3In (key lo hi : ByteArray) (w : World) :
    Calls Tryd.prog 33 #[.string key, .string lo, .string hi] w fun e w' => e = .returned (.bool (inB lo hi key)) ∧ w' = w := by
  have hz : hi.size = 0 ↔ hi = ⟨#[]⟩ := by
    constructor
    · intro h; apply bytes_ext; exact List.eq_nil_of_length_eq_zero (by rw [Array.length_toList]; exact h)
    · rintro rfl; rfl
  cases h1 : Op.bytesLess key.toList lo.toList
  · have H1 : Hid (ltB key lo = false) := h1
    by_cases h2 : hi = ⟨#[]⟩
    · have H2 : Hid (hi.size = 0) := hz.2 h2
      subst h2
      go_enter Tryd.func33, Tryd.ntmps33
      go_wp2
      go_ret
      exact ⟨ret_bool (by unfold inB; rw [H1.out]; rfl), rfl⟩
    · have H2 : Hid (¬ hi.size = 0) := fun e => h2 (hz.1 e)
      have hq : ¬ hi.toList = [] := fun e => h2 (bytes_ext (by rw [← ByteArray.toList_eq]; exact e))
      have hq2 : hi.toList.isEmpty = false := by rw [Bool.eq_false_iff]; intro e; exact hq (List.isEmpty_iff.1 e)
      cases h3 : Op.bytesLess key.toList hi.toList
      all_goals
        have H3 : Hid (ltB key hi = _) := h3
        clear hz h2
        go_enter Tryd.func33, Tryd.ntmps33
        go_wp2
        go_ret
        exact ⟨ret_bool (by unfold inB; rw [H1.out, H3.out, decide_eq_false H2.out]; rfl), rfl⟩
  · have H1 : Hid (ltB key lo = true) := h1
    clear hz
    go_enter Tryd.func33, Tryd.ntmps33
    go_wp2
    go_ret
    exact ⟨ret_bool (by unfold inB; rw [H1.out]; rfl), rfl⟩

end Go.Proofs.YteammdkipnfmnaaDoor.pairs

namespace Go.Proofs.YteammdkipnfmnaaDoor.pairs
open Go Go.RowKit Go.Proofs.YteammdkipnfmnaaDoor.base
set_option linter.unusedVariables false
set_option linter.unusedSimpArgs false

theorem take_snocP (l : List Pr) (k : Nat) (h : k < l.length) : l.take (k + 1) = l.take k ++ [l[k]] := List.take_succ_eq_append_getElem h
theorem filter_snoc (f : Pr → Bool) (l : List Pr) (k : Nat) (h : k < l.length) : (l.take (k + 1)).filter f = (l.take k).filter f ++ if f l[k] then [l[k]] else [] := by
  rw [take_snocP l k h, List.filter_append]
  cases hf : f l[k] <;> simp [List.filter_cons, hf]
theorem one_pair_cells (w : World) (p : Pr) (t : TypeId) : ∀ j u, (pairVals [p])[j]? = some u → (w.alloc (.cells #[.string p.1, .string p.2] t)).cell? ((⟨w.heap.size, 0, none⟩ : Addr).add j) = some u :=
  cells_two w (.string p.1) (.string p.2) t
theorem ownP_app {w' : World} {base n : Nat} {v' : Value} {l : List Pr} {p : Pr} (hl : l.length = n) (hs : ∀ q ∈ l, small q) (hp : small p) (h0 : ¬ v' = .slice none 0 0)
    (h : w'.ownsRow base 65 2 v' (n + 1) (pairVals l ++ pairVals [p])) : ∃ g' cap', v' = .slice (some ⟨g', 0, none⟩) (n + 1) cap' ∧ OwnP w' base g' (n + 1) cap' (l ++ [p]) := by
  rw [← pairVals_append] at h
  refine ownP_val (by simp; omega) ?_ h0 h
  intro q hq
  rcases List.mem_append.1 hq with h1 | h1
  · exact hs q h1
  · simp at h1; subst h1; exact hp



end Go.Proofs.YteammdkipnfmnaaDoor.pairs

namespace Go.Proofs.YteammdkipnfmnaaDoor.pairs
open Go Go.RowKit Go.Proofs.YteammdkipnfmnaaDoor.base
set_option linter.unusedVariables false
set_option linter.unusedSimpArgs false

end Go.Proofs.YteammdkipnfmnaaDoor.pairs
