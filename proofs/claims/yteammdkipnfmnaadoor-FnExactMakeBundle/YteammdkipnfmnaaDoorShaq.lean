/- Tables none of which is nil: how they lie, and the laws' own copies. The laws' helpers for seals: alike. The laws' helpers for items and proofs: alike, marked, held. The laws' helpers for bundles: alike. The laws' helpers for items and proofs: held; proofs marked and held. -/
import Derived.Test.YteammdkipnfmnaaDoorShap
import Derived.Test.YteammdkipnfmnaaDoorShaf
import Derived.Test.YteammdkipnfmnaaDoorShad
import Derived.Test.YteammdkipnfmnaaDoorShag
namespace Go.Proofs.YteammdkipnfmnaaDoor.tabs
open Go Go.RowKit Go.Proofs.YteammdkipnfmnaaDoor.base Go.Proofs.YteammdkipnfmnaaDoor.pairs Go.Proofs.YteammdkipnfmnaaDoor.lay
set_option linter.unusedVariables false
set_option linter.unusedSimpArgs false

def tableN : Rd (List Pr) where
  size := 1
  see := tableR.see
  own w vs l F := ∃ g n c, vs = [.slice (some ⟨g, 0, none⟩) n c] ∧ tableR.own w vs l F
  seeLen h := tableR.seeLen h
  seeCells h hc := tableR.seeCells h hc
  ownSee h := by obtain ⟨_, _, _, _, h⟩ := h; exact tableR.ownSee h
  ownAt h hk := by obtain ⟨g, n, c, e, h⟩ := h; exact ⟨g, n, c, e, tableR.ownAt h hk⟩
  ownLt h := by obtain ⟨_, _, _, _, h⟩ := h; exact tableR.ownLt h
  ownNodup h := by obtain ⟨_, _, _, _, h⟩ := h; exact tableR.ownNodup h
  ownOne h := by obtain ⟨_, _, _, _, h⟩ := h; exact tableR.ownOne h
def tablesN : Rd (List (List Pr)) := slice 54 tableN
section
variable {w w' : World} {v : Value} {l : List (List Pr)} {q : Parts} {F : List Nat}
theorem ofN (h : OwnG 54 tableN w v l q) : OwnG 54 tableR w v l q :=
  ⟨h.len, h.row, fun i hi => by obtain ⟨_, _, _, _, h⟩ := h.each i hi; exact h, h.nodup⟩
theorem toN (h : OwnG 54 tableR w v l q) (hs : ∀ j, j < l.length → ∃ g n c G, q[j]? = some ([.slice (some ⟨g, 0, none⟩) n c], G)) : OwnG 54 tableN w v l q :=
  ⟨h.len, h.row, fun i hi => by
    obtain ⟨g, n, c, G, e⟩ := hs i hi
    have h1 := h.each i hi
    rw [List.getElem?_eq_getElem (by have := h.len; omega)] at e
    have e2 := Option.some.inj e
    exact ⟨g, n, c, by rw [e2], h1⟩, h.nodup⟩
theorem shN (h : OwnG 54 tableN w v l q) : ∀ j, j < q.length → ∃ g n c G, q[j]? = some ([.slice (some ⟨g, 0, none⟩) n c], G) := fun j hj => by
  obtain ⟨g, n, c, e, _⟩ := h.each j (by have := h.len; omega)
  exact ⟨g, n, c, q[j].2, by rw [List.getElem?_eq_getElem hj]; exact congrArg some (Prod.ext e rfl)⟩
end
set_option maxRecDepth 100000 in
set_option maxHeartbeats 1000000 in
theorem toTableN (u0 : Value) (x : List Pr) (w : World) (h : tableR.see w [u0] x) (h1 : x.length ≤ 1099511627776) : Calls Tryd.prog 21 #[.agg #[u0]] w (RetR tableN w x) := by
  obtain ⟨oa, ol, oc, e, _⟩ := id h
  simp only [List.cons.injEq, and_true] at e
  subst e
  have hS := (table_see.1 h).1
  have hol : ol ≤ 1099511627776 := by have := hS.1; omega
  obtain ⟨W1, hW1⟩ : ∃ W1, w.alloc (.cells #[.slice oa ol oc] 47) = W1 := ⟨_, rfl⟩
  have hb1 : Below w.heap.size w W1 := by rw [← hW1]; exact below_make
  have hs1 : W1.heap.size = w.heap.size + 1 := by rw [← hW1]; simp
  obtain ⟨W2, hW2⟩ : ∃ W2, W1.alloc (.cells #[.slice none 0 0] 54) = W2 := ⟨_, rfl⟩
  have hb2 : Below W1.heap.size W1 W2 := by rw [← hW2]; exact below_make
  have hR2 : BoxIn (w.heap.size + 1) 54 [] [.slice none 0 0] [] W2 := by rw [← hW2, ← hs1]; exact boxIn_new W1 _ _
  have hs2 : W2.heap.size = w.heap.size + 1 + 1 := by rw [← hW2]; simp [hs1]
  obtain ⟨W, hW⟩ : ∃ W, W2.alloc (.cells #[.slice none 0 0] 54) = W := ⟨_, rfl⟩
  have hb3 : Below W2.heap.size W2 W := by rw [← hW]; exact below_make
  have hO : BoxIn (w.heap.size + 1 + 1) 54 [] [.slice none 0 0] [] W := by rw [← hW, ← hs2]; exact boxIn_new W2 _ _
  have hR := hR2.below hb3
  have hB := (hb1.trans (hb2.mono hb1.size)).trans (hb3.mono (Nat.le_trans hb1.size hb2.size))
  have HWW : Hid (((w.alloc (.cells #[.slice oa ol oc] 47)).alloc (.cells #[.slice none 0 0] 54)).alloc (.cells #[.slice none 0 0] 54) = W) := by show _ = _; rw [hW1, hW2, hW]
  have H1 := Hid.mk' (toPairS oa ol oc x W (hS.below hB) hol)
  have hbs0 := hO.lt
  clear hb1 hb2 hb3 hR2 hs1 hs2 hW1 hW2 hW h hS
  go_enter Tryd.func21, Tryd.ntmps21
  go_wp2_with fail
  rw [HWW.out]
  refine H1.out.mono ?_
  rintro e w1 ⟨g0, rfl, hO0, hbn⟩
  have h0 := table_ownP hO0
  have hF0 : ∀ k ∈ [g0], W.heap.size ≤ k := fun k hk => by rw [List.mem_singleton.1 hk]; exact hO0.lt.1
  clear hO0
  replace hO := hO.below hbn
  replace hR := hR.below hbn
  replace hB := hB.trans (hbn.mono hB.size)
  have n0 := hO.set 0 (by simp) (.slice (some ⟨g0, 0, none⟩) ol ol)
  have u0 := hO.cell 0 _ rfl
  have v0 := hO.fz 0
  simp only [List.length_nil, Nat.zero_add] at n0 u0
  have gg := n0.2
  replace hB := hB.grown gg hB.size (fun k e => by cases e; omega)
  replace hR := hR.grown gg (by simp)
  replace h0 := tableR.ownGrown h0 gg (fun k hk e => by have := hF0 k hk; cases e; omega)
  have hN : BoxIn (w.heap.size + 1 + 1) 54 [] [.slice (some ⟨g0, 0, none⟩) ol ol] [] _ := n0.1
  have q0 := hN.cell 0 _ rfl
  have z0 := hR.cell 0 _ rfl
  have f0 := hR.fz 0
  simp only [List.length_nil, Nat.zero_add] at q0 z0
  have hSS := hR.whole [.slice (some ⟨g0, 0, none⟩) ol ol] rfl
  have y0 := hSS.1.cell 0 _ rfl
  simp only [List.length_nil, Nat.zero_add, putAll] at y0
  have HBz := Hid.mk' (hB.grown hSS.2 hB.size (fun j e => by cases e; omega))
  replace h0 := tableR.ownGrown h0 hSS.2 (fun k hk e => by have := hF0 k hk; cases e; omega)
  have HOW := Hid.mk' h0
  have HFN : Hid (∀ k ∈ [g0], w.heap.size ≤ k) := fun k hk => by have := hF0 k hk; omega
  simp only [putAll, Nat.zero_add] at HBz HOW
  clear h0 hSS n0 gg
  go_wp2_with fail
  refine bodyPost_ret (v := .agg #[.slice (some ⟨g0, 0, none⟩) ol ol]) ?_ rfl ⟨_, _, rfl, ⟨g0, ol, ol, rfl, HOW.out⟩, HFN.out, HBz.out⟩
  simp [results, Tryd.results21, go_sem, y0]
set_option maxRecDepth 100000 in
set_option maxHeartbeats 4000000 in
theorem toTablesN (a : Option Addr) (len cap : Nat) (l : List (List Pr)) (w : World) (h : SlG tableR w a len l) (hsz : len ≤ 1099511627776) (hfit : ∀ j ∈ l, j.length ≤ 1099511627776) :
    Calls Tryd.prog 8 #[.slice a len cap] w (RetV tablesN w l) := by
  have hl := h.1
  have hm := h.2.1
  subst hl
  have hm' := hm
  unfold maxLen at hm'
  obtain ⟨i0, hif, hz0, hz1, hz2⟩ := info_parts info_toTableS
  go_enter Tryd.func8, Tryd.ntmps8
  go_wp2_with (at_make; refine wpList_make_full _ rfl _ _ 34 rfl w.heap.size 54 i0 (.agg #[.slice none 0 0]) 1 Tryd.underlying34 hif hz0 hz1 _ _ _ _ l.length rfl rfl rfl rfl ?b2 ?b3 ?b4 ?_)
  case b2 => rw [hz2]; omega
  case b3 => exact hm
  case b4 => exact Nat.le_refl _
  intro w1 hown hgrow
  have hown' : w1.ownsRow w.heap.size 54 tableR.size (.slice (some ⟨w.heap.size, 0, none⟩) l.length l.length) l.length (madeCells (.agg #[.slice none 0 0] : Value).cells (l.length * tableR.size)).toList := by
    rw [show l.length * tableR.size = l.length from Nat.mul_one _]
    exact hown
  have hOwn := ownG_zeros (R := tableR) (z := .agg #[.slice none 0 0]) (x := ([] : List Pr)) hown' (table_zero _)
  have hbel : Below w.heap.size w w1 := (Below.refl _ _).grown hgrow (Nat.le_refl _) (fun k e => by cases e)
  have hOwn0 : OwnG 54 tableR w1 (.slice (some ⟨w.heap.size, 0, none⟩) l.length l.length) (copyG ([] : List Pr) l 0) (List.replicate l.length ((.agg #[.slice none 0 0] : Value).cells.toList, [])) := by rw [copyG_zero]; exact hOwn
  have hq0 : ∀ b ∈ w.heap.size :: blocksOf (List.replicate l.length ((.agg #[.slice none 0 0] : Value).cells.toList, ([] : List Nat))), w.heap.size ≤ b := fun b hb => by
    have e1 : blocksOf (List.replicate l.length ((.agg #[.slice none 0 0] : Value).cells.toList, ([] : List Nat))) = [] := by unfold blocksOf; simp
    rw [e1, List.mem_singleton] at hb; omega
  clear hown hown' hgrow hif hz0 hz1 hz2 hOwn
  go_wp2_with fail
  go_loopw [4] (fun i wr => ∃ (k : Nat) (q : Parts), k ≤ l.length ∧ i = .int .i64 k ∧ OwnG 54 tableR wr (.slice (some ⟨w.heap.size, 0, none⟩) l.length l.length) (copyG ([] : List Pr) l k) q ∧ (∀ j, j < k → ∃ g n c G, q[j]? = some ([.slice (some ⟨g, 0, none⟩) n c], G)) ∧ (∀ b ∈ w.heap.size :: blocksOf q, w.heap.size ≤ b) ∧ Below w.heap.size w wr) (fun i _ => l.length - (intOf i).toNat)
  case atStart => exact ⟨0, _, Nat.zero_le _, rfl, hOwn0, fun j hj => absurd hj (Nat.not_lt_zero _), hq0, hbel⟩
  case round =>
    clear hOwn0 hbel hq0
    obtain ⟨k, q, hk, rfl, hO, hsh, hq, hB⟩ := hrel
    have HSH := Hid.mk' hsh
    clear hsh
    by_cases hlt : k < l.length
    · obtain ⟨b, off, e⟩ : ∃ b off, a = some ⟨b, off, none⟩ := by
        obtain ⟨b, off, e, _⟩ := h.2.2.2 (by omega)
        exact ⟨b, off, e⟩
      subst e
      obtain ⟨u0, hsee, c0⟩ := slg_at1 rfl (h.below hB) k hlt
      have hki : (k : Int) < (l.length : Int) := by omega
      have HS := Hid.mk' (copyG_set (z := ([] : List Pr)) k hlt)
      have hfk := hfit _ (List.getElem_mem hlt)
      have HE := Hid.mk' (toTableN u0 l[k] wr hsee hfk)
      generalize l[k] = p at *
      clear hsee
      go_wp2_with fail
      refine HE.out.mono ?_
      rintro e w2 ⟨us, F, rfl, ⟨g0, rn, rc, rfl, hOx⟩, hF, hb2⟩
      have hOR := hO.below hb2
      have hB2 := hB.trans (hb2.mono hB.size)
      have hkl : k < (copyG ([] : List Pr) l k).length := by rw [copyG_length k hk]; exact hlt
      have hlts := hO.lts
      have Rp := hOR.put k hkl [.slice (some ⟨g0, 0, none⟩) rn rc] p F hOx (fun j hj hjb => by have h1 := hF j hj; have h2 := hlts j hjb; omega)
      rw [HS.out, show k * tableR.size = k from Nat.mul_one k] at Rp
      have HR := Hid.mk' Rp
      obtain ⟨y0, _, d0⟩ := slg_at1 rfl hOR.sl k hkl
      simp only [Nat.zero_add] at d0
      have f0 := hOR.frozen k
      have hqn : Hid (∀ b ∈ w.heap.size :: blocksOf (q.set k ([.slice (some ⟨g0, 0, none⟩) rn rc], F)), w.heap.size ≤ b) := fun j hj => by
        rcases List.mem_cons.1 hj with e | e
        · omega
        · obtain ⟨pp, hpp, hjp⟩ := List.mem_flatMap.1 e
          rcases List.mem_or_eq_of_mem_set hpp with h1 | h1
          · exact hq j (List.mem_cons_of_mem _ (List.mem_flatMap.2 ⟨pp, h1, hjp⟩))
          · subst h1
            have h1 := hF j hjp
            have h2 := hB.size
            omega
      have hql : q.length = l.length := by have := hO.len; rw [copyG_length k hk] at this; exact this
      have HSH2 : Hid (∀ j, j < k + 1 → ∃ g n c G, (q.set k ([.slice (some ⟨g0, 0, none⟩) rn rc], F))[j]? = some ([.slice (some ⟨g, 0, none⟩) n c], G)) := fun j hj => by
        by_cases e : j = k
        · subst e
          exact ⟨g0, rn, rc, F, by rw [List.getElem?_set_self (by omega)]⟩
        · rw [List.getElem?_set_ne (fun e2 => e e2.symm)]
          exact HSH.out j (by omega)
      clear hql
      have hsz2 := hB2.size
      clear Rp hO hOR hOx hB hb2 c0 hlts
      go_wp2_with fail
      go_roundw
      case rel => exact ⟨k + 1, _, by omega, by go_num, HR.out.1, HSH2.out, hqn.out, hB2.trans (below_grown HR.out.2 (Nat.le_refl _) hsz2)⟩
      case measure => simp [intOf]; omega
    · have e : k = l.length := by omega
      subst e
      rw [copyG_all] at hO
      go_wp2_with fail
      go_ret
      exact ⟨_, _, rfl, ⟨_, q, rfl, rfl, toN hO HSH.out⟩, fun b hb => hq b (by simpa [Value.ownBlock] using hb), hB⟩
theorem markTablesN (v : Value) (l : List (List Pr)) (F : List Nat) (k0 : Nat) (w : World) (h : tablesN.own w [v] l F) (hk1 : 1 ≤ k0) (hk : k0 + cntAll cntT l ≤ 1099511627776) :
    Calls Tryd.prog 14 #[v, .int .i64 (k0 : Nat)] w fun e w' => e = .returned (.int .i64 ((k0 + cntAll cntT l : Nat) : Int)) ∧ tablesN.own w' [v] (markRow mT cntT k0 l) F ∧ lay.Frame F w w' := by
  obtain ⟨v', q, e, rfl, hO⟩ := h
  cases e
  rcases hO.shape with ⟨rfl, rfl, rfl⟩ | ⟨g, cap, rfl, h1, h2⟩
  · refine (nil_markTableS (k0 : Int) w).mono ?_
    rintro e w' ⟨rfl, rfl⟩
    exact ⟨rfl, own_nil _ _ _, lay.Frame.refl _ _⟩
  · refine (markTableS g l.length cap l q k0 w (ofN hO) hk1 hk).mono ?_
    rintro e w' ⟨rfl, hO', hf⟩
    exact ⟨rfl, ⟨_, q, rfl, rfl, toN hO' (fun j hj => shN hO j (by have := hO'.len; omega))⟩, hf⟩
end Go.Proofs.YteammdkipnfmnaaDoor.tabs

namespace Go.Proofs.YteammdkipnfmnaaDoor.seals
open Go Go.RowKit Go.Proofs.YteammdkipnfmnaaDoor.base Go.Proofs.YteammdkipnfmnaaDoor.pairs Go.Proofs.YteammdkipnfmnaaDoor.lay
set_option linter.unusedVariables false
set_option linter.unusedSimpArgs false

theorem slg_some {α : Type} {R : Rd α} {w : World} {a : Option Addr} {len : Nat} {l : List α} (h : SlG R w a len l) (h0 : 0 < len) : ∃ b off, a = some ⟨b, off, none⟩ := by
  obtain ⟨b, off, e, _⟩ := h.2.2.2 h0
  exact ⟨b, off, e⟩
theorem below_two (w : World) (o o2 : Obj) : Below w.heap.size w ((w.alloc o).alloc o2) := ((Below.refl _ _).alloc (Nat.le_refl _) _).alloc (by simp) _
set_option maxRecDepth 100000 in
set_option maxHeartbeats 1000000 in
theorem eqSealT (no : Int) (pv su : ByteArray) (oa ob : Option Addr) (ol oc bl bc : Nat) (rs : List ByteArray) (w : World) (h1 : SlS w oa ol rs) (h2 : SlS w ob bl rs) :
    Calls Tryd.prog 11 #[.agg #[.int .i64 no, .string pv, .string su, .slice oa ol oc], .agg #[.int .i64 no, .string pv, .string su, .slice ob bl bc]] w fun e w' => e = .returned (.bool true) ∧ Below w.heap.size w w' := by
  obtain ⟨W, hW⟩ : ∃ W, (w.alloc (.cells #[.int .i64 no, .string pv, .string su, .slice oa ol oc] 32)).alloc (.cells #[.int .i64 no, .string pv, .string su, .slice ob bl bc] 32) = W := ⟨_, rfl⟩
  have hB : Below w.heap.size w W := by rw [← hW]; exact below_two _ _ _
  have hT := helps.eqStringS oa ob ol oc bl bc rs rs W (h1.below hB) (h2.below hB)
  rw [decide_eq_true rfl] at hT
  have HO := Hid.mk' hT
  have HW := Hid.mk' hW
  have hn : (no == no) = true := by simp
  have hp := str_same pv
  have hu := str_same su
  clear hW h1 h2 hT
  go_enter Tryd.func11, Tryd.ntmps11
  go_wp2_with fail
  rw [HW.out]
  refine HO.out.mono ?_
  rintro e w1 ⟨rfl, n, rfl⟩
  have hB1 := below_drewN hB n
  clear HO HW
  go_wp2_with fail
  go_ret
  exact ⟨rfl, hB1⟩
end Go.Proofs.YteammdkipnfmnaaDoor.seals

namespace Go.Proofs.YteammdkipnfmnaaDoor.range
open Go Go.RowKit Go.Proofs.YteammdkipnfmnaaDoor.base Go.Proofs.YteammdkipnfmnaaDoor.pairs Go.Proofs.YteammdkipnfmnaaDoor.tree Go.Proofs.YteammdkipnfmnaaDoor.helps
set_option linter.unusedVariables false
set_option linter.unusedSimpArgs false

set_option maxRecDepth 100000 in
set_option maxHeartbeats 1000000 in
theorem eqItemT (x : It) (pa qa : Option Addr) (pl pc ql qc : Nat) (w : World) (hx : SlS w pa pl x.2) (hy : SlS w qa ql x.2) :
    Calls Tryd.prog 66 #[.agg #[.string x.1.1, .string x.1.2, .slice pa pl pc], .agg #[.string x.1.1, .string x.1.2, .slice qa ql qc]] w fun e w' => e = .returned (.bool true) ∧ Below w.heap.size w w' := by
  obtain ⟨W0, hW0⟩ : ∃ W, W = w.alloc (.cells #[.string x.1.1, .string x.1.2, .slice pa pl pc] 69) := ⟨_, rfl⟩
  obtain ⟨W, hW⟩ : ∃ W, W = W0.alloc (.cells #[.string x.1.1, .string x.1.2, .slice qa ql qc] 69) := ⟨_, rfl⟩
  have hs0 : W0.heap.size = w.heap.size + 1 := by rw [hW0]; simp
  have hB0 : Below w.heap.size w W0 := by rw [hW0]; exact (Below.refl _ _).alloc (Nat.le_refl _) _
  have hB : Below w.heap.size w W := by rw [hW]; exact hB0.alloc hB0.size _
  have k1 : W.cell? ⟨w.heap.size, 2, none⟩ = some (.slice pa pl pc) := by rw [hW, hW0]; simp
  have k2 : W.cell? ⟨w.heap.size + 1, 2, none⟩ = some (.slice qa ql qc) := by rw [hW, ← hs0]; simp
  have hl1 : w.heap.size < W.heap.size := World.block_lt_of_cell? W _ k1
  have hl2 : w.heap.size + 1 < W.heap.size := World.block_lt_of_cell? W _ k2
  have hE := eqPair x.1 x.1 W
  rw [decide_eq_true rfl] at hE
  have HE := Hid.mk' hE
  have HW : Hid ((w.alloc (.cells #[.string x.1.1, .string x.1.2, .slice pa pl pc] 69)).alloc (.cells #[.string x.1.1, .string x.1.2, .slice qa ql qc] 69) = W) := by show _ = _; rw [hW, hW0]
  clear hE hW hW0 hs0 hB0
  go_enter Tryd.func66, Tryd.ntmps66
  go_wp2_with fail
  rw [HW.out]
  refine HE.out.mono ?_
  rintro e w1 ⟨rfl, hb1⟩
  have d1 := (hb1.cell (p := ⟨w.heap.size, 2, none⟩) hl1).trans k1
  have d2 := (hb1.cell (p := ⟨w.heap.size + 1, 2, none⟩) hl2).trans k2
  have hB1 := hB.trans (hb1.mono hB.size)
  have hT := eqStringS pa qa pl pc ql qc x.2 x.2 w1 (hx.below hB1) (hy.below hB1)
  rw [decide_eq_true rfl] at hT
  have HT := Hid.mk' hT
  clear hT k1 k2 HE HW hb1 hl1 hl2 hB
  go_wp2_with fail
  refine HT.out.mono ?_
  rintro e w2 ⟨rfl, n, rfl⟩
  have hB2 := below_drewN hB1 n
  clear HT d1 d2
  go_wp2_with fail
  go_ret
  exact ⟨rfl, hB2⟩

set_option maxRecDepth 100000 in
set_option maxHeartbeats 2000000 in
theorem eqItemsT (a a2 : Option Addr) (len cap cap2 : Nat) (l : List It) (w : World) (h : SlI w a len l) (h2 : SlI w a2 len l) :
    Calls Tryd.prog 54 #[.slice a len cap, .slice a2 len cap2] w fun e w' => e = .returned (.bool true) ∧ Below w.heap.size w w' := by
  obtain ⟨hl, hm, hsm, hc⟩ := id h
  obtain ⟨_, _, _, hc2⟩ := id h2
  subst hl
  unfold maxLen at hm
  have hb : ((l.length : Int) == (l.length : Int)) = true := by simp
  go_enter Tryd.func54, Tryd.ntmps54
  go_wp2_with fail
  go_loopw [5] (fun i wr => ∃ k : Nat, k ≤ l.length ∧ i = .int .i64 k ∧ Below w.heap.size w wr) (fun i _ => l.length - (intOf i).toNat)
  case atStart => exact ⟨0, Nat.zero_le _, rfl, Below.refl _ _⟩
  case round =>
    obtain ⟨k, hk, rfl, hB⟩ := hrel
    by_cases hlt : k < l.length
    · obtain ⟨b, off, ha, hcl⟩ := hc (by omega)
      obtain ⟨b2, off2, ha2, hcl2⟩ := hc2 (by omega)
      subst ha ha2
      have hki : (k : Int) < (l.length : Int) := by omega
      have i1 := h.at k hlt
      have i2 := h2.at k hlt
      have hb1 : b < w.heap.size := World.block_lt_of_cell? w _ i1.1
      have hb2 : b2 < w.heap.size := World.block_lt_of_cell? w _ i2.1
      have hbs := hB.size
      obtain ⟨c1, c2, pa, pl, pc, c3, hS1, _⟩ := i1.below hB
      obtain ⟨c4, c5, qa, ql, qc, c6, hS2, _⟩ := i2.below hB
      have o1 := last.On.cell (B := wr.heap.size) c1 (by omega)
      have o2 := last.On.cell (B := wr.heap.size) c2 (by omega)
      have o3 := last.On.cell (B := wr.heap.size) c3 (by omega)
      have o4 := last.On.cell (B := wr.heap.size) c4 (by omega)
      have o5 := last.On.cell (B := wr.heap.size) c5 (by omega)
      have o6 := last.On.cell (B := wr.heap.size) c6 (by omega)
      have hinh := last.On.inh wr.heap.size wr
      have hcall : ∀ x : last.On wr.heap.size wr, Calls Tryd.prog 66 #[.agg #[.string l[k].1.1, .string l[k].1.2, .slice pa pl pc], .agg #[.string l[k].1.1, .string l[k].1.2, .slice qa ql qc]] x.w fun e w' => e = .returned (.bool true) ∧ ∃ y : last.On wr.heap.size wr, w' = y.w := fun x => last.Calls.on x (Nat.le_refl _) (eqItemT l[k] pa qa pl pc ql qc x.w (hS1.below x.2) (hS2.below x.2))
      clear hcl hcl2 hc hc2 i1 i2 hsm h h2 hS1 hS2
      generalize l[k] = p at *
      go_wp2_with fail
      refine last.wp_region_on wr.heap.size (by kernel_rfl) (by kernel_rfl) ?_
      repeat (go_big_quiet_step ((go_at_call 66; exact hcall _)))
      refine wpQuiet_nil ?_
      intro w5 hw5
      obtain ⟨x5, hw5⟩ := hw5
      subst hw5
      have hB5 : Below w.heap.size w x5.w := hB.trans (x5.2.mono hB.size)
      go_wp2_with fail
      go_roundw
      case rel => exact ⟨k + 1, by omega, by go_num, hB5⟩
      case measure => simp [intOf]; omega
    · go_wp2_with fail
      go_ret
      exact ⟨rfl, hB⟩

set_option maxRecDepth 100000 in
set_option maxHeartbeats 1000000 in
theorem eqProofT (n fr : Int) (a a2 : Option Addr) (len cap cap2 : Nat) (l : List It) (w : World) (h : SlI w a len l) (h2 : SlI w a2 len l) :
    Calls Tryd.prog 39 #[.agg #[.int .i64 n, .int .i64 fr, .slice a len cap], .agg #[.int .i64 n, .int .i64 fr, .slice a2 len cap2]] w fun e w' => e = .returned (.bool true) ∧ Below w.heap.size w w' := by
  obtain ⟨W, hW⟩ : ∃ W, (w.alloc (.cells #[.int .i64 n, .int .i64 fr, .slice a len cap] 50)).alloc (.cells #[.int .i64 n, .int .i64 fr, .slice a2 len cap2] 50) = W := ⟨_, rfl⟩
  have hB : Below w.heap.size w W := by rw [← hW]; exact ((Below.refl _ _).alloc (Nat.le_refl _) _).alloc (by simp) _
  have HE := Hid.mk' (eqItemsT a a2 len cap cap2 l W (h.below hB) (h2.below hB))
  have HW := Hid.mk' hW
  clear hW
  have hn : (n == n) = true := by simp
  have hf : (fr == fr) = true := by simp
  go_enter Tryd.func39, Tryd.ntmps39
  go_wp2_with fail
  rw [HW.out]
  refine HE.out.mono ?_
  rintro e w1 ⟨rfl, hb1⟩
  have hB1 := hB.trans (hb1.mono hB.size)
  clear HE HW hb1
  go_wp2_with fail
  go_ret
  exact ⟨rfl, hB1⟩

/-! ### marks -/
def cnt (l : List It) : Nat := (l.map fun x => 2 + x.2.length).sum
def markI : Nat → List It → List It
  | _, [] => []
  | k, x :: l => ((markBytes k, markBytes (k + 1)), markS (k + 2) x.2.length) :: markI (k + 2 + x.2.length) l
theorem cnt_cons (x : It) (l : List It) : cnt (x :: l) = 2 + x.2.length + cnt l := by simp [cnt]
theorem cnt_append (a b : List It) : cnt (a ++ b) = cnt a + cnt b := by simp [cnt]
theorem cnt_take (l : List It) (i : Nat) (h : i < l.length) : cnt (l.take (i + 1)) = cnt (l.take i) + 2 + l[i].2.length := by
  rw [List.take_succ_eq_append_getElem h, cnt_append]; simp [cnt]; omega
theorem cnt_take_le (l : List It) (i : Nat) : cnt (l.take i) ≤ cnt l := by
  have : cnt l = cnt (l.take i) + cnt (l.drop i) := by rw [← cnt_append, List.take_append_drop]
  omega
theorem markI_length (k : Nat) (l : List It) : (markI k l).length = l.length := by
  induction l generalizing k with
  | nil => rfl
  | cons x l ih => simp [markI, ih]
theorem markI_append (k : Nat) (a b : List It) : markI k (a ++ b) = markI k a ++ markI (k + cnt a) b := by
  induction a generalizing k with
  | nil => simp [markI, cnt]
  | cons x a ih => simp only [List.cons_append, markI, ih, cnt_cons, Nat.add_assoc]
def markITo (l : List It) (k i : Nat) : List It := markI k (l.take i) ++ l.drop i
theorem markITo_zero (l : List It) (k : Nat) : markITo l k 0 = l := by simp [markITo, markI]
theorem markITo_all (l : List It) (k : Nat) : markITo l k l.length = markI k l := by simp [markITo]
theorem markITo_length (l : List It) (k i : Nat) (h : i ≤ l.length) : (markITo l k i).length = l.length := by simp [markITo, markI_length]; omega
theorem markITo_at (l : List It) (k i : Nat) (h : i < l.length) : (markITo l k i)[i]'(by rw [markITo_length l k i (by omega)]; exact h) = l[i] := by
  unfold markITo
  rw [List.getElem_append_right (by rw [markI_length, List.length_take]; exact Nat.min_le_left _ _)]
  simp [markI_length, Nat.min_eq_left (Nat.le_of_lt h)]
theorem markITo_set (l : List It) (k i : Nat) (h : i < l.length) :
    (markITo l k i).set i ((markBytes (k + cnt (l.take i)), markBytes (k + cnt (l.take i) + 1)), markS (k + cnt (l.take i) + 2) l[i].2.length) = markITo l k (i + 1) := by
  unfold markITo
  rw [List.set_append_right _ _ (by rw [markI_length, List.length_take]; exact Nat.min_le_left _ _), markI_length, List.length_take, Nat.min_eq_left (Nat.le_of_lt h), Nat.sub_self, List.drop_eq_getElem_cons h, List.set_cons_zero,
    List.take_succ_eq_append_getElem h, markI_append, List.append_assoc]
  rfl
theorem markI_at (k : Nat) (l : List It) (i : Nat) (h : i < l.length) : (markI k l)[i]'(by rw [markI_length]; exact h) = ((markBytes (k + cnt (l.take i)), markBytes (k + cnt (l.take i) + 1)), markS (k + cnt (l.take i) + 2) l[i].2.length) := by
  induction l generalizing k i with
  | nil => simp at h
  | cons x l ih =>
    cases i with
    | zero => simp [markI, cnt]
    | succ i =>
      simp only [markI, List.getElem_cons_succ, List.take_succ_cons, cnt_cons]
      rw [ih _ i (by simpa using h)]
      simp only [Nat.add_assoc]

theorem markStringI (g len cap k0 base : Nat) (ss : List ByteArray) (w : World) (h : OwnS w base g len cap ss) (hk1 : 1 ≤ k0) (hk0 : k0 + len ≤ 1099511627776) (K : Int) (hK : Hid (K = (k0 : Int))) :
    Calls Tryd.prog 26 #[.slice (some ⟨g, 0, none⟩) len cap, .int .i64 K] w fun e w' => e = .returned (.int .i64 ((k0 + len : Nat) : Int)) ∧ OwnS w' base g len cap (markS k0 len) ∧ w.grownBy w' (some g) := by
  have e := hK.out
  subst e
  exact markStringS g len cap k0 base ss w h hk1 hk0
set_option maxRecDepth 100000 in
set_option maxHeartbeats 2000000 in
theorem markItemS (v : Value) (base k0 : Nat) (l : List It) (hs : List Hd) (w : World) (h : OwnI w base v l hs) (hb : base ≤ w.heap.size) (hk1 : 1 ≤ k0) (hk0 : k0 + cnt l ≤ 1099511627776) (hll : l.length ≤ 1099511627776) :
    Calls Tryd.prog 42 #[v, .int .i64 (k0 : Nat)] w fun e w' => e = .returned (.int .i64 ((k0 + cnt l : Nat) : Int)) ∧ OwnI w' base v (markI k0 l) hs ∧ KeepB v hs w w' := by
  rcases h.shape with ⟨rfl, rfl, rfl⟩ | ⟨g, cap, rfl, hcap, hmx⟩
  · go_enter Tryd.func42, Tryd.ntmps42
    go_wp2_with fail
    refine wp_loop_rounds 1 ?_
    rw [rounds_succ]
    go_wp2_with fail
    go_ret
    exact ⟨rfl, h, KeepB.refl _ _ _⟩
  have hlen := h.len
  go_enter Tryd.func42, Tryd.ntmps42
  go_wp2_with fail
  go_loopw [1, 5] (fun kv i wr => ∃ k : Nat, k ≤ l.length ∧ i = .int .i64 k ∧ kv = .int .i64 ((k0 + cnt (l.take k) : Nat) : Int) ∧ OwnI wr base (.slice (some ⟨g, 0, none⟩) l.length cap) (markITo l k0 k) hs ∧ KeepB (.slice (some ⟨g, 0, none⟩) l.length cap) hs w wr) (fun _ i _ => l.length - (intOf i).toNat)
  case atStart => exact ⟨0, Nat.zero_le _, rfl, rfl, by rw [markITo_zero]; exact h, KeepB.refl _ _ _⟩
  case round =>
    obtain ⟨k, hk, rfl, rfl, hO, hB⟩ := hrel
    by_cases hlt : k < l.length
    · have hml := markITo_length l k0 k hk
      have hlen2 : k < (markITo l k0 k).length := by omega
      have hat : (markITo l k0 k)[k]? = some l[k] := by rw [List.getElem?_eq_getElem hlen2, markITo_at l k0 k hlt]
      have hset := markITo_set l k0 k hlt
      have hct := cnt_take l k hlt
      have hcl := cnt_take_le l (k + 1)
      have hki : (k : Int) < (l.length : Int) := by omega
      obtain ⟨c, hc⟩ : ∃ c, k0 + cnt (l.take k) = c := ⟨_, rfl⟩
      have hnext : k0 + cnt (l.take (k + 1)) = c + 2 + l[k].2.length := by omega
      rw [hc] at hset
      have hc2 : c + 2 + l[k].2.length ≤ 1099511627776 := by omega
      have hc1 : 1 ≤ c := by omega
      have hgl := (hO.row.lt g rfl).1
      obtain ⟨L, hL⟩ : ∃ L, markITo l k0 k = L := ⟨_, rfl⟩
      rw [hL] at hO hat hset hlen2
      have hat : L[k] = l[k] := by rw [List.getElem?_eq_getElem hlen2] at hat; exact Option.some.inj hat
      have HN := Hid.mk' hnext
      have HS := Hid.mk' hset
      have HLK := Hid.mk' hat
      have hkh : k < hs.length := by omega
      rw [hc]
      clear hnext hset hct hcl hL hc hml hat
      go_wp2_with fail
      refine (markTextI _ c _ (by show _ = _; omega) (by omega) (by omega)).mono ?_
      rintro e w1 ⟨rfl, hB1⟩
      have hO1 := hO.below hB1
      have d1 := (hO1.at k hlen2).1
      have f1 := hO1.frozen (k * 3)
      have R := hO1.setKey k hlen2 (markBytes c) (mark_max _)
      have hB2 := hB.below hB1
      have hB3 := hB2.grown R.2 (.inl rfl)
      have HR := Hid.mk' R.1
      clear R hO1 hO hB1 hB hB2
      go_wp2_with fail
      refine (markTextI _ (c + 1) _ (by show _ = _; omega) (by omega) (by omega)).mono ?_
      rintro e w2 ⟨rfl, hB4⟩
      have hO2 := HR.out.below hB4
      have hlen3 : k < (L.set k ((markBytes c, L[k].1.2), L[k].2)).length := by simpa using hlen2
      have d2 := (hO2.at k hlen3).2.1
      have f2 := hO2.frozen (k * 3 + 1)
      have R2 := hO2.setVal k hlen3 (markBytes (c + 1)) (mark_max _)
      simp only [List.getElem_set_self, List.set_set] at R2
      have hB5 := hB3.below hB4
      have hB6 := hB5.grown R2.2 (.inl rfl)
      have hlen4 : k < (L.set k ((markBytes c, markBytes (c + 1)), L[k].2)).length := by simpa using hlen2
      have d3 := (R2.1.at k hlen4).2.2
      have hPk := R2.1.paths k hlen4
      simp only [List.getElem_set_self] at hPk
      obtain ⟨yg, yn, yc, hy⟩ : ∃ yg yn yc, hs[k] = (yg, yn, yc) := ⟨_, _, _, rfl⟩
      simp only [hy] at hPk d3
      have HR2 := Hid.mk' R2.1
      have hpn := hPk.1
      have hpl : L[k].2.length = l[k].2.length := by rw [HLK.out]
      have HPk := Hid.mk' hPk
      have hyn : yn ≤ 1099511627776 := by omega
      have HYN : Hid (l[k].2.length = yn) := by show _ = _; omega
      have hc3 : c + 2 + yn ≤ 1099511627776 := by omega
      have HYK := Hid.mk' hy
      clear R2 hO2 hB4 hB3 hB5 HR d1 f1 hPk hpn hpl hy
      have HM := fun K (hK : Hid (K = ((c + 2 : Nat) : Int))) => markStringI yg yn yc (c + 2) base _ _ HPk.out (by omega) hc3 K hK
      have HMM := Hid.mk' HM
      clear HM
      go_wp2_with fail
      refine (HMM.out _ (by show _ = _; omega)).mono ?_
      rintro e w3 ⟨rfl, hP3, hG3⟩
      have hO3 := HR2.out.setPath k hlen4 (markS (c + 2) yn) (by simp only [HYK.out]; exact hP3) (by simp only [HYK.out]; exact hG3)
      simp only [List.getElem_set_self, List.set_set] at hO3
      rw [← HYN.out, HS.out] at hO3
      have hB7 := hB6.grown hG3 (.inr ⟨hs[k], List.getElem_mem _, by rw [HYK.out]⟩)
      have HO3 := Hid.mk' hO3
      clear hO3 hP3 hG3 HMM HPk HR2 d2 f2 d3 hB6
      go_wp2_with fail
      go_roundw
      case rel => exact ⟨k + 1, by omega, by go_num, by have h1 := HN.out; have h2 := HYN.out; refine val_int ?_; omega, HO3.out, hB7⟩
      case measure => simp [intOf]; omega
    · have e : k = l.length := by omega
      subst e
      rw [markITo_all] at hO
      have HO := Hid.mk' hO
      have HE : Hid (k0 + cnt (l.take l.length) = k0 + cnt l) := by show _ = _; rw [List.take_length]
      clear hO
      go_wp2_with fail
      go_ret
      exact ⟨ret_int (by rw [HE.out]), HO.out, hB⟩
end Go.Proofs.YteammdkipnfmnaaDoor.range

namespace Go.Proofs.YteammdkipnfmnaaDoor.bun
open Go Go.RowKit Go.Proofs.YteammdkipnfmnaaDoor.base Go.Proofs.YteammdkipnfmnaaDoor.pairs Go.Proofs.YteammdkipnfmnaaDoor.lay Go.Proofs.YteammdkipnfmnaaDoor.range Go.Proofs.YteammdkipnfmnaaDoor.seals
set_option linter.unusedVariables false
set_option linter.unusedSimpArgs false

set_option maxRecDepth 100000 in
set_option maxHeartbeats 2000000 in
theorem eqProofsT (a a2 : Option Addr) (len cap cap2 : Nat) (l : List Pf) (w : World) (h : SlG proofR w a len l) (h2 : SlG proofR w a2 len l) :
    Calls Tryd.prog 24 #[.slice a len cap, .slice a2 len cap2] w fun e w' => e = .returned (.bool true) ∧ Below w.heap.size w w' := by
  have hl := h.1
  have hm := h.2.1
  unfold maxLen at hm
  have hb : ((len : Int) == (len : Int)) = true := by simp
  go_enter Tryd.func24, Tryd.ntmps24
  go_wp2_with fail
  go_loopw [5] (fun i wr => ∃ k : Nat, k ≤ len ∧ i = .int .i64 k ∧ Below w.heap.size w wr) (fun i _ => len - (intOf i).toNat)
  case atStart => exact ⟨0, Nat.zero_le _, rfl, Below.refl _ _⟩
  case round =>
    obtain ⟨k, hk, rfl, hB⟩ := hrel
    by_cases hlt : k < len
    · have hltl : k < l.length := by omega
      obtain ⟨b, off, e⟩ := slg_some h (by omega)
      obtain ⟨b2, off2, e2⟩ := slg_some h2 (by omega)
      subst e e2
      have hki : (k : Int) < (len : Int) := by omega
      obtain ⟨ra, rn, rc, c0, c1, c2, hS1, _⟩ := proof_at (h.below hB) k hltl
      obtain ⟨zra, zrn, zrc, d0, d1, d2, hS2, _⟩ := proof_at (h2.below hB) k hltl
      obtain rfl : rn = zrn := hS1.1.symm.trans hS2.1
      have o0 := last.On.cell (B := wr.heap.size) c0 (World.block_lt_of_cell? _ _ c0)
      have p0 := last.On.cell (B := wr.heap.size) d0 (World.block_lt_of_cell? _ _ d0)
      have o1 := last.On.cell (B := wr.heap.size) c1 (World.block_lt_of_cell? _ _ c1)
      have p1 := last.On.cell (B := wr.heap.size) d1 (World.block_lt_of_cell? _ _ d1)
      have o2 := last.On.cell (B := wr.heap.size) c2 (World.block_lt_of_cell? _ _ c2)
      have p2 := last.On.cell (B := wr.heap.size) d2 (World.block_lt_of_cell? _ _ d2)
      have hinh := last.On.inh wr.heap.size wr
      have hcall : ∀ x : last.On wr.heap.size wr, Calls Tryd.prog 39 #[.agg #[.int .i64 l[k].1, .int .i64 l[k].2.1, .slice ra rn rc], .agg #[.int .i64 l[k].1, .int .i64 l[k].2.1, .slice zra rn zrc]] x.w fun e w' => e = .returned (.bool true) ∧ ∃ y : last.On wr.heap.size wr, w' = y.w := fun x => last.Calls.on x (Nat.le_refl _) (eqProofT _ _ ra zra rn rc zrc l[k].2.2 x.w (hS1.below x.2) (hS2.below x.2))
      clear h h2 hS1 hS2
      generalize l[k] = p at *
      go_wp2_with fail
      refine last.wp_region_on wr.heap.size (by kernel_rfl) (by kernel_rfl) ?_
      repeat (go_big_quiet_step ((go_at_call 39; exact hcall _)))
      refine wpQuiet_nil ?_
      intro w5 hw5
      obtain ⟨x5, hw5⟩ := hw5
      subst hw5
      have hB5 : Below w.heap.size w x5.w := hB.trans (x5.2.mono hB.size)
      go_wp2_with fail
      go_roundw
      case rel => exact ⟨k + 1, by omega, by go_num, hB5⟩
      case measure => simp [intOf]; omega
    · have hnk : ¬ (k : Int) < (len : Int) := by omega
      go_wp2_with fail
      go_ret
      exact ⟨rfl, hB⟩
set_option maxRecDepth 100000 in
set_option maxHeartbeats 1000000 in
theorem eqBundleT (ra : Option Addr) (rn rc : Nat) (pa : Option Addr) (pn pc : Nat) (zra : Option Addr) (zrn zrc : Nat) (zpa : Option Addr) (zpn zpc : Nat) (x : Bun) (w : World) (h1 : SeeBu w ra rn rc pa pn pc x) (h2 : SeeBu w zra zrn zrc zpa zpn zpc x) :
    Calls Tryd.prog 10 #[.agg #[.int .i64 x.1, .string x.2.1, .slice ra rn rc, .slice pa pn pc], .agg #[.int .i64 x.1, .string x.2.1, .slice zra zrn zrc, .slice zpa zpn zpc]] w fun e w' => e = .returned (.bool true) ∧ Below w.heap.size w w' := by
  obtain rfl : pn = zpn := h1.proofs.1.symm.trans h2.proofs.1
  obtain ⟨W, hW⟩ : ∃ W, (w.alloc (.cells #[.int .i64 x.1, .string x.2.1, .slice ra rn rc, .slice pa pn pc] 30)).alloc (.cells #[.int .i64 x.1, .string x.2.1, .slice zra zrn zrc, .slice zpa pn zpc] 30) = W := ⟨_, rfl⟩
  have hB : Below w.heap.size w W := by rw [← hW]; exact below_two _ _ _
  have hx : BoxIn w.heap.size 30 [] [.int .i64 x.1, .string x.2.1, .slice ra rn rc, .slice pa pn pc] [] W := by rw [← hW]; exact (boxIn_new w _ _).below below_make
  have hy : BoxIn (w.heap.size + 1) 30 [] [.int .i64 x.1, .string x.2.1, .slice zra zrn zrc, .slice zpa pn zpc] [] W := by
    rw [← hW]
    have := boxIn_new (w.alloc (.cells #[.int .i64 x.1, .string x.2.1, .slice ra rn rc, .slice pa pn pc] 30)) [.int .i64 x.1, .string x.2.1, .slice zra zrn zrc, .slice zpa pn zpc] 30
    rwa [show (w.alloc (.cells #[.int .i64 x.1, .string x.2.1, .slice ra rn rc, .slice pa pn pc] 30)).heap.size = w.heap.size + 1 by simp] at this
  have hT := helps.eqStringS ra zra rn rc zrn zrc x.2.2.1 x.2.2.1 W (h1.roots.below hB) (h2.roots.below hB)
  rw [decide_eq_true rfl] at hT
  have H0 := Hid.mk' hT
  have H1 := Hid.mk' (fun wx (hb : Below W.heap.size W wx) => eqProofsT pa zpa pn pc zpc x.2.2.2 wx ((h1.proofs.below hB).below hb) ((h2.proofs.below hB).below hb))
  have HW := Hid.mk' hW
  have hn : (x.1 == x.1) = true := by simp
  have hp := str_same x.2.1
  obtain ⟨a0, a1, a2, a3⟩ := box4 hx
  obtain ⟨b0, b1, b2, b3⟩ := box4 hy
  rw [← hW] at a0 a1 a2 a3 b0 b1 b2 b3
  clear hW h1 h2 hT
  go_enter Tryd.func10, Tryd.ntmps10
  go_wp2_with fail
  rw [HW.out]
  refine H0.out.mono ?_
  rintro e w1 ⟨rfl, n, rfl⟩
  have hb1 : Below W.heap.size W (W.drewN n) := below_drewN (Below.refl _ _) n
  clear a0 a1 a2 a3 b0 b1 b2 b3 H0 HW
  obtain ⟨a0, a1, a2, a3⟩ := box4 (hx.below hb1)
  obtain ⟨b0, b1, b2, b3⟩ := box4 (hy.below hb1)
  go_wp2_with fail
  refine (H1.out _ hb1).mono ?_
  rintro e w2 ⟨rfl, hb2⟩
  have hb3 := hb1.trans (hb2.mono hb1.size)
  go_wp2_with fail
  go_ret
  exact ⟨rfl, hB.trans (hb3.mono hB.size)⟩
end Go.Proofs.YteammdkipnfmnaaDoor.bun

namespace Go.Proofs.YteammdkipnfmnaaDoor.range
open Go Go.RowKit Go.Proofs.YteammdkipnfmnaaDoor.base Go.Proofs.YteammdkipnfmnaaDoor.pairs Go.Proofs.YteammdkipnfmnaaDoor.tree Go.Proofs.YteammdkipnfmnaaDoor.helps
set_option linter.unusedVariables false
set_option linter.unusedSimpArgs false

theorem heldStringI (a : Option Addr) (len cap k0 : Nat) (w : World) (h : SlS w a len (markS k0 len)) (hk1 : 1 ≤ k0) (hk0 : k0 + len ≤ 1099511627776) (K : Int) (hK : Hid (K = (k0 : Int))) :
    Calls Tryd.prog 29 #[.slice a len cap, .int .i64 K] w fun e w' => e = .returned (.int .i64 ((k0 + len : Nat) : Int)) ∧ Below w.heap.size w w' := by
  have e := hK.out
  subst e
  exact heldStringS a len cap k0 w h hk1 hk0

set_option maxRecDepth 100000 in
set_option maxHeartbeats 2000000 in
theorem heldItemS (a : Option Addr) (len cap k0 : Nat) (l : List It) (w : World) (h : SlI w a len (markI k0 l)) (hk1 : 1 ≤ k0) (hk0 : k0 + cnt l ≤ 1099511627776) (hll : l.length ≤ 1099511627776) :
    Calls Tryd.prog 43 #[.slice a len cap, .int .i64 (k0 : Nat)] w fun e w' => e = .returned (.int .i64 ((k0 + cnt l : Nat) : Int)) ∧ Below w.heap.size w w' := by
  have hl0 := h.1
  rw [markI_length] at hl0
  subst hl0
  have hc := h.2.2.2
  go_enter Tryd.func43, Tryd.ntmps43
  go_wp2_with fail
  go_loopw [1, 5] (fun kv i wr => ∃ k : Nat, k ≤ l.length ∧ i = .int .i64 k ∧ kv = .int .i64 ((k0 + cnt (l.take k) : Nat) : Int) ∧ Below w.heap.size w wr) (fun _ i _ => l.length - (intOf i).toNat)
  case atStart => exact ⟨0, Nat.zero_le _, rfl, rfl, Below.refl _ _⟩
  case round =>
    obtain ⟨k, hk, rfl, rfl, hB⟩ := hrel
    by_cases hlt : k < l.length
    · obtain ⟨b, off, ha⟩ : ∃ b off, a = some ⟨b, off, none⟩ := by
        obtain ⟨b, off, ha, _⟩ := hc (by omega)
        exact ⟨b, off, ha⟩
      subst ha
      have hkl : k < (markI k0 l).length := by rw [markI_length]; exact hlt
      have hbb : b < w.heap.size := World.block_lt_of_cell? w _ (h.at k hkl).1
      have hit := (h.at k hkl).below hB
      rw [markI_at k0 l k hlt] at hit
      have hct := cnt_take l k hlt
      have hcl := cnt_take_le l (k + 1)
      have hki : (k : Int) < (l.length : Int) := by omega
      obtain ⟨c, hce⟩ : ∃ c, k0 + cnt (l.take k) = c := ⟨_, rfl⟩
      have hnext : k0 + cnt (l.take (k + 1)) = c + 2 + l[k].2.length := by omega
      rw [hce] at hit
      have hc2 : c + 2 + l[k].2.length ≤ 1099511627776 := by omega
      have hc1 : 1 ≤ c := by omega
      obtain ⟨c1, c2, pa, pl, pc, c3, hS, _⟩ := hit
      have hpl := hS.1
      simp only [markS_length] at hpl
      simp only [hpl] at hS hc2 hnext
      have HN := Hid.mk' hnext
      have HS := Hid.mk' hS
      have hbw := hB.size
      have o1 := last.On.cell (B := wr.heap.size) c1 (by omega)
      have hinh := last.On.inh wr.heap.size wr
      have hm1 : ∀ K, Hid (K = (c : Int)) → ∀ x : last.On wr.heap.size wr, Calls Tryd.prog 41 #[.int .i64 K] x.w fun e w' => e = .returned (.string (markBytes c)) ∧ ∃ y : last.On wr.heap.size wr, w' = y.w := fun K hK x => last.Calls.on x (Nat.le_refl _) (markTextI _ c x.w hK (by omega) (by omega))
      simp only at c1 c2 c3 o1
      generalize hM1 : markBytes c = M1 at *
      generalize hM2 : markBytes (c + 1) = M2 at *
      have HM2 := Hid.mk' hM2
      rw [hce]
      clear hM1 hM2 hpl hnext hct hcl hS hkl hce h hc
      go_wp2_with fail
      refine last.wp_region_on wr.heap.size (by kernel_rfl) (by kernel_rfl) ?_
      repeat (go_big_quiet_step ((go_at_call 41; exact hm1 _ (by show _ = _; omega) _)))
      refine wpQuiet_nil ?_
      intro w5 hw5
      obtain ⟨x5, hw5⟩ := hw5
      subst hw5
      have hB5 : Below w.heap.size w x5.w := hB.trans (x5.2.mono hB.size)
      have c2' := (x5.2.cell (p := ⟨b, off + k * 3 + 1, none⟩) (by show b < _; omega)).trans c2
      have c3' := (x5.2.cell (p := ⟨b, off + k * 3 + 2, none⟩) (by show b < _; omega)).trans c3
      have HS5 : Hid (SlS x5.w pa pl (markS (c + 2) pl)) := HS.out.below x5.2
      change x5.w.cell? _ = _ at c2' c3'
      generalize x5.w = w6 at *
      clear o1 hinh hm1 c1 c2 c3 HS
      have hbw6 := hB5.size
      have o2 := last.On.cell (B := w6.heap.size) c2' (by omega)
      have hinh := last.On.inh w6.heap.size w6
      have hm2 : ∀ K, Hid (K = (c : Int) + 1) → ∀ x : last.On w6.heap.size w6, Calls Tryd.prog 41 #[.int .i64 K] x.w fun e w' => e = .returned (.string M2) ∧ ∃ y : last.On w6.heap.size w6, w' = y.w := fun K hK x => last.Calls.on x (Nat.le_refl _) (by rw [← HM2.out]; exact markTextI _ (c + 1) x.w (by show _ = _; have := hK.out; omega) (by omega) (by omega))
      clear HM2
      go_wp2_with fail
      refine last.wp_region_on w6.heap.size (by kernel_rfl) (by kernel_rfl) ?_
      repeat (go_big_quiet_step ((go_at_call 41; exact hm2 _ (by show _ = _; omega) _)))
      refine wpQuiet_nil ?_
      intro w7 hw7
      obtain ⟨x7, hw7⟩ := hw7
      subst hw7
      have hB7 : Below w.heap.size w x7.w := hB5.trans (x7.2.mono hB5.size)
      have c3'' := (x7.2.cell (p := ⟨b, off + k * 3 + 2, none⟩) (by show b < _; omega)).trans c3'
      have HS7 : Hid (SlS x7.w pa pl (markS (c + 2) pl)) := HS5.out.below x7.2
      change x7.w.cell? _ = _ at c3''
      generalize x7.w = w8 at *
      clear o2 hinh hm2 c2' c3' HS5
      go_wp2_with fail
      refine (heldStringI pa pl pc (c + 2) _ HS7.out (by omega) hc2 _ (by show _ = _; omega)).mono ?_
      rintro e w9 ⟨rfl, hb9⟩
      have hB9 := hB7.trans (hb9.mono hB7.size)
      clear HS7 hb9
      go_wp2_with fail
      go_roundw
      case rel => exact ⟨k + 1, by omega, by go_num, by have h1 := HN.out; refine val_int ?_; omega, hB9⟩
      case measure => simp [intOf]; omega
    · have e : k = l.length := by omega
      subst e
      have HE : Hid (k0 + cnt (l.take l.length) = k0 + cnt l) := by show _ = _; rw [List.take_length]
      go_wp2_with fail
      go_ret
      exact ⟨ret_int (by rw [HE.out]), hB⟩

end Go.Proofs.YteammdkipnfmnaaDoor.range
