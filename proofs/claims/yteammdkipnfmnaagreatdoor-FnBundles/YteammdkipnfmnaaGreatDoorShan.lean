/- A bundle made: mathematics, and what its walks keep. The specification's union. What the laws on pairs draw. What the laws on pairs draw: whole draws. -/
import Derived.Test.YteammdkipnfmnaaGreatDoorShag
import Derived.Test.YteammdkipnfmnaaGreatDoorShal
import Derived.Test.YteammdkipnfmnaaGreatDoorSham
import Derived.Test.YteammdkipnfmnaaGreatDoorShaf
import Derived.Test.YteammdkipnfmnaaGreatDoorShaj
namespace Go.Proofs.YteammdkipnfmnaaGreatDoor.bun
open Go Go.RowKit Go.Proofs.YteammdkipnfmnaaGreatDoor.base Go.Proofs.YteammdkipnfmnaaGreatDoor.pairs Go.Proofs.YteammdkipnfmnaaGreatDoor.lay Go.Proofs.YteammdkipnfmnaaGreatDoor.range Go.Proofs.YteammdkipnfmnaaGreatDoor.seals Go.Proofs.YteammdkipnfmnaaGreatDoor.tabs
set_option linter.unusedVariables false
set_option linter.unusedSimpArgs false

def pfOf (lo hi : ByteArray) (t : List Pr) : Pf := ((prove t lo hi).n, (prove t lo hi).fr, (prove t lo hi).items)
def makeB (lo hi : ByteArray) (x : Seal) (ts : List (List Pr)) : Bun := if ts.length = x.2.2.2.length then (x.1, x.2.1, x.2.2.2, ts.map (pfOf lo hi)) else (0, ⟨#[]⟩, [], [])
theorem prove_wf (l : List Pr) (lo hi : ByteArray) : (Lit.int .i64 (prove l lo hi).n).wf = true ∧ (Lit.int .i64 (prove l lo hi).fr).wf = true := by
  unfold prove
  split
  · rename_i h
    have h60 := ((pairsOk_iff l).1 h).2
    have hto := toN_le lo hi l
    refine ⟨WalkArith.wf_i64 (by simp only []; omega), ?_⟩
    simp only []
    split <;> exact WalkArith.wf_i64 (by omega)
  · exact ⟨by decide, by decide⟩
def TN (w : World) (a : Option Addr) (n : Nat) (ts : List (List Pr)) : Prop :=
  ts.length = n ∧ n ≤ maxLen ∧ (0 < n → ∃ b off, a = some ⟨b, off, none⟩ ∧ ∀ i (h : i < ts.length), ∃ g o m c, w.cell? ⟨b, off + i, none⟩ = some (.slice (some ⟨g, o, none⟩) m c) ∧ SlP w (some ⟨g, o, none⟩) m ts[i] ∧ m ≤ c)
theorem TN.below {w w' : World} {a : Option Addr} {n : Nat} {ts : List (List Pr)} (h : TN w a n ts) (hb : Below w.heap.size w w') : TN w' a n ts := by
  obtain ⟨h1, h2, h3⟩ := h
  refine ⟨h1, h2, fun h0 => ?_⟩
  obtain ⟨b, off, e, hi⟩ := h3 h0
  refine ⟨b, off, e, fun i hl => ?_⟩
  obtain ⟨g, o, m, c, c0, hs, hm⟩ := hi i hl
  exact ⟨g, o, m, c, (hb.cell (p := ⟨b, off + i, none⟩) (World.block_lt_of_cell? w _ c0)).trans c0, hs.below hb, hm⟩
theorem ownG_nilB {α : Type} (ty : TypeId) (R : Rd α) (w : World) : OwnG ty R w (.slice none 0 0) [] [] :=
  ⟨rfl, World.ownsRow_nil _ _ _ _, fun i h => absurd h (by simp), by simp [blocksOf, Value.ownBlock]⟩
theorem infoStrB : (Tryz.prog.info? 9).map (fun i => (i.zero, i.size, i.bytes)) = some (some (.string ⟨#[]⟩), 1, 16) := by kernel_rfl
theorem none_strB (w : World) (g c : Nat) (ty : TypeId) : (Builtin.append_ #[24, 24] ty #[.slice (some ⟨g, 0, none⟩) 0 0, .slice none 0 c]).run Tryz.prog w = .ok (.slice (some ⟨g, 0, none⟩) 0 0) w := by kernel_rfl
theorem copy_strs {w : World} {g n c : Nat} {a : Option Addr} {l : List ByteArray} (hg : w.ownsRow 0 9 1 (.slice (some ⟨g, 0, none⟩) 0 0) 0 []) (h : SlG str w a n l) (hb : n ≤ 1099511627776) (ty : TypeId) :
    ∃ g' cap' w', (Builtin.append_ #[24, 24] ty #[.slice (some ⟨g, 0, none⟩) 0 0, .slice a n c]).run Tryz.prog w = .ok (.slice (some ⟨g', 0, none⟩) n cap') w' ∧ textsR.own w' [.slice (some ⟨g', 0, none⟩) n cap'] l [g'] ∧ w.grownBy w' (some g) ∧ (g' = g ∨ w.heap.size ≤ g') := by
  obtain ⟨g', cap', w', h1, h2, h3, h4⟩ := cos.Flat.copyRun (P := Tryz.prog) cos.flat_str (fun x u hu => by rw [List.mem_singleton.1 hu]; rfl) (by decide) (z := .string ⟨#[]⟩) Tryz.underlying24 infoStrB rfl none_strB g a n c hg h (by omega) ty
  exact ⟨g', cap', w', h1, ⟨_, _, rfl, by rw [(cos.flat_str.parts h2).2.2.1]; rfl, h2⟩, h3, h4⟩
theorem own_nilB {α : Type} (ty : TypeId) (R : Rd α) (w : World) : (lay.slice ty R).own w [.slice none 0 0] [] [] := ⟨_, [], rfl, rfl, ownG_nilB ty R w⟩
theorem row_belowB {w w' : World} {b : Nat} {e : TypeId} {s n : Nat} {v : Value} {xs : List Value} (h : w.ownsRow b e s v n xs) (hb : Below w.heap.size w w') : w'.ownsRow b e s v n xs := lay.row_of_block h (fun k hk => hb.block k (h.lt k hk).2)
theorem mem_own {v : Value} {k : Nat} {q : Parts} (e : v.ownBlock = some k) : k ∈ v.ownBlock.toList ++ blocksOf q := List.mem_append.2 (.inl (by simp [e]))
structure MSt (w0 w : World) (X R : Nat) (no : Int) (pv : ByteArray) (g rn c : Nat) (rs : List ByteArray) (v : Value) (L : List Pf) (q : Parts) : Prop where
  bel : Below w0.heap.size w0 w
  box : BoxIn X 27 [] [.int .i64 no, .string pv, .slice (some ⟨g, 0, none⟩) rn c, v] [] w
  ret : BoxIn R 27 [] [.int .i64 0, .string ⟨#[]⟩, .slice none 0 0, .slice none 0 0] [] w
  txt : textsR.own w [.slice (some ⟨g, 0, none⟩) rn c] rs [g]
  prf : OwnG 64 proofR w v L q
  newX : w0.heap.size ≤ X
  newR : w0.heap.size ≤ R
  newG : w0.heap.size ≤ g
  newP : ∀ k ∈ v.ownBlock.toList ++ blocksOf q, w0.heap.size ≤ k
  out : X ∉ v.ownBlock.toList ++ blocksOf q ∧ R ∉ v.ownBlock.toList ++ blocksOf q ∧ g ∉ v.ownBlock.toList ++ blocksOf q ∧ X ≠ g ∧ X ≠ R ∧ R ≠ g
section
variable {w0 w w' : World} {X R g rn c : Nat} {no : Int} {pv : ByteArray} {rs : List ByteArray} {v : Value} {L : List Pf} {q : Parts}
theorem MSt.below (h : MSt w0 w X R no pv g rn c rs v L q) (hb : Below w.heap.size w w') : MSt w0 w' X R no pv g rn c rs v L q :=
  ⟨h.bel.trans (hb.mono h.bel.size), h.box.below hb, h.ret.below hb, textsR.ownBelow h.txt hb, h.prf.below hb, h.newX, h.newR, h.newG, h.newP, h.out⟩
theorem MSt.start (hB : Below w0.heap.size w0 w) (hX : BoxIn X 27 [] [.int .i64 0, .string ⟨#[]⟩, .slice none 0 0, .slice none 0 0] [] w) (hR : BoxIn R 27 [] [.int .i64 0, .string ⟨#[]⟩, .slice none 0 0, .slice none 0 0] [] w) (ht : textsR.own w [.slice (some ⟨g, 0, none⟩) rn c] rs [g]) (hx : w0.heap.size ≤ X) (hr : w0.heap.size ≤ R) (hg : w0.heap.size ≤ g) (h1 : X ≠ g) (h2 : X ≠ R) (h3 : R ≠ g) :
    MSt w0 (putAll w X 0 [.int .i64 no, .string pv, .slice (some ⟨g, 0, none⟩) rn c, .slice none 0 0]) X R no pv g rn c rs (.slice none 0 0) [] [] := by
  have hS := hX.whole [.int .i64 no, .string pv, .slice (some ⟨g, 0, none⟩) rn c, .slice none 0 0] rfl
  refine ⟨hB.grown hS.2 hB.size (fun k e => by cases e; exact hx), hS.1, hR.grown hS.2 (fun e => h2 (by cases e; rfl)), textsR.ownGrown ht hS.2 (fun k hk e => h1 (by cases e; exact List.mem_singleton.1 hk)), ownG_nilB _ _ _, hx, hr, hg, fun k hk => by simp [Value.ownBlock, blocksOf] at hk, by simp [Value.ownBlock, blocksOf], by simp [Value.ownBlock, blocksOf], by simp [Value.ownBlock, blocksOf], h1, h2, h3⟩
theorem MSt.push {us : List Value} {x : Pf} {F : List Nat} {g' n cap : Nat} (h : MSt w0 w X R no pv g rn c rs v L q) (hx : proofR.own w us x F) (hF : ∀ k ∈ F, w0.heap.size ≤ k ∧ k ≠ X ∧ k ≠ R ∧ k ≠ g) (hO : OwnG 64 proofR w' (.slice (some ⟨g', 0, none⟩) n cap) (L ++ [x]) (q ++ [(us, F)])) (hg : w.grownBy w' v.ownBlock) (hat : v.ownBlock = some g' ∨ g' = w.heap.size) :
    MSt w0 (w'.setCell ⟨X, 3, none⟩ (.slice (some ⟨g', 0, none⟩) n cap)) X R no pv g rn c rs (.slice (some ⟨g', 0, none⟩) n cap) (L ++ [x]) (q ++ [(us, F)]) := by
  have hmem : ∀ k, v.ownBlock = some k → k ∈ v.ownBlock.toList ++ blocksOf q := fun k e => List.mem_append.2 (.inl (by simp [e]))
  have hbx := h.box.grown hg (fun e => h.out.1 (hmem _ e.symm))
  have hrt := h.ret.grown hg (fun e => h.out.2.1 (hmem _ e.symm))
  have htx := textsR.ownGrown h.txt hg (fun k hk e => h.out.2.2.1 (by rw [List.mem_singleton.1 hk] at e; exact hmem _ e.symm))
  have hS := hbx.set 3 (by simp) (.slice (some ⟨g', 0, none⟩) n cap)
  simp only [List.length_nil, Nat.zero_add, List.set_cons_succ, List.set_cons_zero] at hS
  have hne : ∀ k, k < w.heap.size → k ∉ v.ownBlock.toList ++ blocksOf q → k ≠ g' := fun k hk hn e => by
    rcases hat with e2 | e2
    · exact hn (by rw [e]; exact hmem _ e2)
    · omega
  have hblk : ∀ k, k ∈ (Value.slice (some ⟨g', 0, none⟩) n cap).ownBlock.toList ++ blocksOf (q ++ [(us, F)]) → k = g' ∨ k ∈ blocksOf q ∨ k ∈ F := fun k hk => by
    rw [blocksOf_append] at hk
    rcases List.mem_append.1 hk with e | e
    · left; simpa [Value.ownBlock] using e
    · rcases List.mem_append.1 e with e | e
      · exact .inr (.inl e)
      · exact .inr (.inr (by simpa [blocksOf] using e))
  have hnot : ∀ k, k < w.heap.size → k ∉ v.ownBlock.toList ++ blocksOf q → k ∉ F → k ∉ (Value.slice (some ⟨g', 0, none⟩) n cap).ownBlock.toList ++ blocksOf (q ++ [(us, F)]) := fun k hk h1 h2 hm => by
    rcases hblk k hm with e | e | e
    · exact hne k hk h1 e
    · exact h1 (List.mem_append.2 (.inr e))
    · exact h2 e
  have hX := hnot X h.box.lt h.out.1 (fun e => (hF X e).2.1 rfl)
  have hR := hnot R h.ret.lt h.out.2.1 (fun e => (hF R e).2.2.1 rfl)
  have hG := hnot g (textsR.ownLt h.txt g (by simp)) h.out.2.2.1 (fun e => (hF g e).2.2.2 rfl)
  have hB := h.bel.grown hg h.bel.size (fun k e => h.newP k (hmem k e))
  have hs0 := h.bel.size
  refine ⟨hB.grown hS.2 hB.size (fun k e => by cases e; exact h.newX), hS.1, hrt.grown hS.2 (fun e => h.out.2.2.2.2.1 (by cases e; rfl)), textsR.ownGrown htx hS.2 (fun k hk e => h.out.2.2.2.1 (by cases e; exact List.mem_singleton.1 hk)), hO.keep (fun k hk => hS.2.block k (hO.at_ k hk) (fun e => hX (by cases e; exact hk))), h.newX, h.newR, h.newG, fun k hk => ?_, hX, hR, hG, h.out.2.2.2⟩
  rcases hblk k hk with e | e | e
  · rcases hat with e2 | e2
    · rw [e]; exact h.newP g' (hmem _ e2)
    · omega
  · exact h.newP k (List.mem_append.2 (.inr e))
  · exact (hF k e).1
theorem MSt.done (h : MSt w0 w X R no pv g rn c rs v L q) (hno : (Lit.int .i64 no).wf = true) (hp : pv.size ≤ maxLen) :
    BoxIn R 27 [] [.int .i64 no, .string pv, .slice (some ⟨g, 0, none⟩) rn c, v] [] (putAll w R 0 [.int .i64 no, .string pv, .slice (some ⟨g, 0, none⟩) rn c, v]) ∧ bundleR.own (putAll w R 0 [.int .i64 no, .string pv, .slice (some ⟨g, 0, none⟩) rn c, v]) [.int .i64 no, .string pv, .slice (some ⟨g, 0, none⟩) rn c, v] (no, pv, rs, L) (g :: (v.ownBlock.toList ++ blocksOf q)) ∧ (∀ k ∈ g :: (v.ownBlock.toList ++ blocksOf q), w0.heap.size ≤ k) ∧ Below w0.heap.size w0 (putAll w R 0 [.int .i64 no, .string pv, .slice (some ⟨g, 0, none⟩) rn c, v]) := by
  have hS := h.ret.whole [.int .i64 no, .string pv, .slice (some ⟨g, 0, none⟩) rn c, v] rfl
  have hn := h.prf.nodup
  refine ⟨hS.1, bundle_own.2 ⟨_, v, [g], v.ownBlock.toList ++ blocksOf q, rfl, rfl, hno, hp, textsR.ownGrown h.txt hS.2 (fun k hk e => h.out.2.2.2.2.2 (by cases e; exact List.mem_singleton.1 hk)), own_mk (h.prf.keep (fun k hk => hS.2.block k (h.prf.at_ k hk) (fun e => h.out.2.1 (by cases e; exact hk)))), List.nodup_cons.2 ⟨h.out.2.2.1, hn⟩⟩, fun k hk => ?_, h.bel.grown hS.2 h.bel.size (fun k e => by cases e; exact h.newR)⟩
  rcases List.mem_cons.1 hk with e | e
  · rw [e]; exact h.newG
  · exact h.newP k e
end
theorem infoPf : (Tryz.prog.info? 64).map (fun i => (i.zero, i.size, i.bytes)) = some (some (.agg #[.int .i64 0, .int .i64 0, .slice none 0 0]), 3, 40) := by kernel_rfl
end Go.Proofs.YteammdkipnfmnaaGreatDoor.bun

namespace Go.Proofs.YteammdkipnfmnaaGreatDoor.pairs
open Go Go.RowKit Go.Proofs.YteammdkipnfmnaaGreatDoor.base
set_option linter.unusedVariables false
set_option linter.unusedSimpArgs false

theorem unionOf_snoc (a b : List Pr) (k : Nat) (h : k < b.length) : unionOf a (b.take (k + 1)) = putKey b[k].1 b[k].2 (unionOf a (b.take k)) := by
  unfold unionOf; rw [take_snocP b k h, List.foldl_append]; rfl
set_option maxRecDepth 100000 in
set_option maxHeartbeats 2000000 in
theorem spec_unionOf (b off len cap : Nat) (l : List Pr) (b2 off2 len2 cap2 : Nat) (l2 : List Pr) (w : World) (h : SlP w (some ⟨b, off, none⟩) len l) (h2 : SlP w (some ⟨b2, off2, none⟩) len2 l2) (hsz : len + len2 ≤ 1099511627776) :
    Calls Tryz.prog 33 #[.slice (some ⟨b, off, none⟩) len cap, .slice (some ⟨b2, off2, none⟩) len2 cap2] w fun e w' =>
      ∃ g' n' cap', e = .returned (.slice (some ⟨g', 0, none⟩) n' cap') ∧ OwnP w' w.heap.size g' n' cap' (unionOf l l2) ∧ Below w.heap.size w w' := by
  obtain ⟨i0, hif, hz0, hz1, hz2⟩ := info_parts infoP
  have hl := h.1
  have hsm := h.2.2.1
  have hl2 := h2.1
  have hsm2 := h2.2.2.1
  subst hl hl2
  have hba : Below w.heap.size w (w.alloc (.cells #[] 34)) := (Below.refl _ _).alloc (Nat.le_refl _) _
  have HC := Hid.mk' (cells_pairs (h.below hba).cells)
  have hn0 := pairVals_length l
  have hm1 : 0 + l.length ≤ maxLen := by unfold maxLen; omega
  have hm2 : (0 + l.length) * 32 ≤ 140737488355328 := by omega
  have hown0 := (ownP_made w w.heap.size (Nat.le_refl _)).2.2
  go_enter Tryz.func33, Tryz.ntmps33
  go_wp2_with (at_builtin; refine wpList_append_own _ rfl (.tmp 7) (.tmp 8) 30 rfl w.heap.size 34 i0 (.agg #[.string ⟨#[]⟩, .string ⟨#[]⟩]) 2 32 Tryz.underlying30 hif hz0 hz1 hz2 rfl (by decide) _ _ _ rfl hown0 ⟨b, off, none⟩ l.length cap (pairVals l) rfl hn0 HC.out (pairVals_oneCell _) hm1 hm2 (le_alloc _ _ (Nat.le_refl _)) ?_)
  intro v1 w1 hown hgrow hnn
  have hnn' : ¬ v1 = .slice none 0 0 := by simpa using hnn
  obtain ⟨g1, cap1, hv, hO1⟩ := ownP_val rfl hsm hnn' (by simpa [pairVals] using hown)
  subst hv
  have hB1 : Below w.heap.size w w1 := hba.grown hgrow (le_alloc _ _ (Nat.le_refl _)) (fun k e => by simp [Value.ownBlock] at e; omega)
  clear hown hgrow hnn hnn' hown0 HC hn0 hm1 hm2 hba
  go_wp2_with (at_builtin; fail)
  go_loopw [5, 6] (fun v i wr => ∃ (k g n cp : Nat), k ≤ l2.length ∧ n ≤ l.length + k ∧ i = .int .i64 (k : Int) ∧ v = .slice (some ⟨g, 0, none⟩) n cp ∧ OwnP wr w.heap.size g n cp (unionOf l (l2.take k)) ∧ Below w.heap.size w wr) (fun _ i _ => l2.length - (intOf i).toNat)
  case atStart => exact ⟨0, g1, _, cap1, Nat.zero_le _, by omega, rfl, rfl, hO1, hB1⟩
  case round =>
    clear hO1 hB1
    obtain ⟨k, g, n, cp, hk, hn, rfl, rfl, hO, hB⟩ := hrel
    by_cases hlt : k < l2.length
    · obtain ⟨c1, c2⟩ := (h2.below hB).cells k hlt
      have hpk := hsm2 _ (List.getElem_mem hlt)
      have hki : (k : Int) < (l2.length : Int) := by omega
      have HU := Hid.mk' (unionOf_snoc l l2 k hlt)
      have hpl := putKey_length l2[k].1 l2[k].2 (unionOf l (l2.take k))
      have hOd : OwnP wr.drew w.heap.size g n cp (unionOf l (l2.take k)) := hO
      have hcs := hO.cases
      have hul := hO.1
      generalize l2[k] = p at *
      generalize unionOf l (l2.take k) = u at *
      go_wp2_with (at_builtin; fail)
      go_region_held3 (fun w' => w'.cell? ⟨b2, off2 + k * 2, none⟩ = some (.string p.1) ∧ w'.cell? ⟨b2, off2 + k * 2 + 1, none⟩ = some (.string p.2)) (first | (exact keepB2 hb5 (by assumption)) | (go_keep)) (first | (go_at_call 72; refine (spec_putKey g 0 n cp u p.1 p.2 _ hOd.sl hcs.1 (by omega) hpk.1 hpk.2).mono ?_; rintro e w5 ⟨g5, n5, cp5, rfl, hO5, hb5⟩))
      all_goals
        have hB5 : Below w.heap.size w w5 := hB.drew.trans (hb5.mono hB.size)
        have hO5' := hO5.mono (base' := w.heap.size) hB.size
        rw [← HU.out] at hO5'
        have hn5 : n5 ≤ l.length + (k + 1) := by have := hO5.1; omega
        have HO5 := Hid.mk' hO5'
        clear hb5 hO5 hO5' hO hOd hB c1 c2
        go_wp2_with (at_builtin; fail)
        go_roundw
        case rel => exact ⟨k + 1, g5, n5, cp5, by omega, hn5, by go_num, rfl, HO5.out, hB5⟩
        case measure => simp [intOf]; omega
    · have HE : Hid (l2.take k = l2) := List.take_of_length_le (by omega)
      go_wp2_with (at_builtin; fail)
      go_ret
      rw [HE.out] at hO
      exact ⟨g, n, cp, rfl, hO, hB⟩

end Go.Proofs.YteammdkipnfmnaaGreatDoor.pairs

namespace Go.Proofs.YteammdkipnfmnaaGreatDoor.pairs
open Go Go.RowKit Go.Proofs.YteammdkipnfmnaaGreatDoor.base Go.Proofs.YteammdkipnfmnaaGreatDoor.draw
set_option linter.unusedVariables false
set_option linter.unusedSimpArgs false

def GotS (N : Nat) (w0 w : World) (gc : Nat) (a : Option Addr) (len cap : Nat) (code : List UInt8) (e : Ending) (w' : World) : Prop :=
  ∃ z : ByteArray, z.size ≤ N ∧ e = .returned (.string z) ∧ Cur w0 w' gc a len cap code ∧ w.grownBy w' (some gc)
theorem grown_of_alloc {w w' : World} {o : Obj} {row : Option Nat} (h : (w.alloc o).grownBy w' row) : w.grownBy w' row := grownBy_trans (grown_alloc0 w o row) h

set_option maxHeartbeats 1000000 in
theorem d_once (w0 w : World) (gc : Nat) (a : Option Addr) (len cap : Nat) (code : List UInt8) (n : Int) (h : Cur w0 w gc a len cap code) (hn : 0 < n) (hn2 : n ≤ 1000000000) :
    Calls Tryz.prog 21 #[.pointer (some ⟨gc, 0, none⟩), .int .i64 n] w fun e w' => ∃ b : Bool, e = .returned (.bool b) ∧ Cur w0 w' gc a len cap code ∧ w.grownBy w' (some gc) := by
  go_enter Tryz.func21, Tryz.ntmps21
  go_wp2_with fail
  refine (below_ w0 _ gc a len cap code n h hn hn2).mono ?_
  rintro e w1 ⟨x, hx, rfl, hc1, hg1⟩
  go_wp2_with fail
  go_ret
  exact ⟨_, rfl, hc1, hg1⟩

theorem curNe {w0 w : World} {gc : Nat} {a : Option Addr} {len cap : Nat} {code : List UInt8} (h : Cur w0 w gc a len cap code) : w.heap.size ≠ gc := by have := h.lt; omega
theorem some_at (zs : Array Value) (n : Nat) (N : Nat) (h : (List.range n).all (fun i => match zs[i]? with | some (.string z) => decide (z.size ≤ N) | _ => false) = true) : ∀ i, i < n → ∃ z, zs[i]? = some (.string z) ∧ z.size ≤ N := by
  intro i hi
  have := List.all_eq_true.1 h i (List.mem_range.2 hi)
  split at this
  · rename_i z hz; exact ⟨z, hz, of_decide_eq_true this⟩
  · cases this

set_option maxHeartbeats 1000000 in
theorem d_val (w0 w : World) (gc : Nat) (a : Option Addr) (len cap : Nat) (code : List UInt8) (h : Cur w0 w gc a len cap code) :
    Calls Tryz.prog 86 #[.pointer (some ⟨gc, 0, none⟩)] w fun e w' => GotS 13 w0 w gc a len cap code e w' := by
  go_enter Tryz.func86, Tryz.ntmps86
  go_wp2_with fail
  have hne := curNe h
  refine (str_ w0 _ gc a len cap code w.heap.size 6 _ _ _ (h.below ((Below.refl _ _).alloc (Nat.le_refl _) _)) (heap_alloc_new w _) rfl (by omega) (by omega) hne (fun z => z.size ≤ 13) (some_at _ 6 13 (by kernel_rfl))).mono ?_
  rintro e w1 ⟨z, hz, rfl, hc1, hg1⟩
  go_wp2_with fail
  go_ret
  exact ⟨z, hz, rfl, hc1, grown_of_alloc hg1⟩

def tiny (p : Pr) : Prop := p.1.size ≤ 13 ∧ p.2.size ≤ 21
theorem max13 {n : Nat} (h : n ≤ 21) : n ≤ maxLen := Nat.le_trans h (by decide)

end Go.Proofs.YteammdkipnfmnaaGreatDoor.pairs

namespace Go.Proofs.YteammdkipnfmnaaGreatDoor.pairs
open Go Go.RowKit Go.Proofs.YteammdkipnfmnaaGreatDoor.base Go.Proofs.YteammdkipnfmnaaGreatDoor.draw
set_option linter.unusedVariables false
set_option linter.unusedSimpArgs false


set_option maxHeartbeats 1000000 in
theorem d_ends (w0 w : World) (gc : Nat) (a : Option Addr) (len cap : Nat) (code : List UInt8) (h : Cur w0 w gc a len cap code) :
    Calls Tryz.prog 19 #[.pointer (some ⟨gc, 0, none⟩)] w fun e w' => ∃ lo hi : ByteArray, lo.size ≤ 13 ∧ hi.size ≤ 13 ∧ e = .returned (.tuple #[.string lo, .string hi]) ∧ Cur w0 w' gc a len cap code ∧ w.grownBy w' (some gc) := by
  go_enter Tryz.func19, Tryz.ntmps19
  go_wp2_with fail
  have hne := curNe h
  refine (str_ w0 _ gc a len cap code w.heap.size 6 _ _ _ (h.below ((Below.refl _ _).alloc (Nat.le_refl _) _)) (heap_alloc_new w _) rfl (by omega) (by omega) hne (fun z => z.size ≤ 13) (some_at _ 6 13 (by kernel_rfl))).mono ?_
  rintro e w1 ⟨z, hz, rfl, hc1, hg1⟩
  have hg1' := grown_of_alloc hg1
  clear hg1
  go_wp2_with fail
  have hne1 := curNe hc1
  refine (str_ w0 _ gc a len cap code w1.heap.size 6 _ _ _ (hc1.below ((Below.refl _ _).alloc (Nat.le_refl _) _)) (heap_alloc_new w1 _) rfl (by omega) (by omega) hne1 (fun z => z.size ≤ 13) (some_at _ 6 13 (by kernel_rfl))).mono ?_
  rintro e w2 ⟨z2, hz2, rfl, hc2, hg2⟩
  go_wp2_with fail
  go_ret2
  exact ⟨z, z2, hz, hz2, rfl, hc2, grownBy_trans hg1' (grown_of_alloc hg2)⟩

end Go.Proofs.YteammdkipnfmnaaGreatDoor.pairs
