/- The program's check of a bundle: each proof, and all. Arguments: what came in is read as a value of its type. No function of the program is named here. Seals that came in. Bundles that came in. What all laws share whose road reads the table of the rounds' words: the table reads as its datum, so its cells are the words. -/
import Derived.Test.YteammdkipnfmnaaGreatDoorShaw
import Derived.Test.YteammdkipnfmnaaGreatDoorShag
import Derived.ChangeArms
import Derived.Deep.Slices
import Derived.WideShapes
import Derived.Deep.SlicePairs
import Derived.Test.YteammdkipnfmnaaGreatDoorShah
import Derived.Test.YteammdkipnfmnaaGreatDoorRows
import Derived.Test.YteammdkipnfmnaaGreatDoorShap
import Derived.ProofKit
import Derived.OpenShut
import Derived.ShutString
import Derived.ChangeOld
import Derived.Below
import Derived.ChangeVars
import Derived.OpenVars
import Derived.LaidMore
import Derived.Lay
import Derived.LaidOnce
import Derived.SevenTiedAt
namespace Go.Proofs.YteammdkipnfmnaaGreatDoor.bun
open Go Go.RowKit Go.Proofs.YteammdkipnfmnaaGreatDoor.base Go.Proofs.YteammdkipnfmnaaGreatDoor.pairs Go.Proofs.YteammdkipnfmnaaGreatDoor.lay Go.Proofs.YteammdkipnfmnaaGreatDoor.range Go.Proofs.YteammdkipnfmnaaGreatDoor.seals Go.Proofs.YteammdkipnfmnaaGreatDoor.tabs
set_option linter.unusedVariables false
set_option linter.unusedSimpArgs false

theorem ownG_rowP {α : Type} {R : Rd α} {ty : TypeId} {w : World} {g n : Nat} {k : Nat} (h : w.ownsRow k ty R.size (.slice (some ⟨g, 0, none⟩) 0 n) 0 []) : OwnG ty R w (.slice (some ⟨g, 0, none⟩) 0 n) [] [] := by
  refine ⟨rfl, ?_, fun i hi => absurd hi (by simp), by simp [blocksOf, Value.ownBlock]⟩
  obtain ⟨h1, h2⟩ := h
  refine ⟨h1, ?_⟩
  rcases h2 with h2 | ⟨g', c', cur, h2, h3, h4⟩
  · exact .inl h2
  · exact .inr ⟨g', c', cur, h2, Nat.zero_le _, h4⟩
theorem ownG_madeP {α : Type} (ty : TypeId) (R : Rd α) (w : World) : OwnG ty R (w.alloc (.cells #[] ty)) (.slice (some ⟨w.heap.size, 0, none⟩) 0 0) [] [] :=
  ⟨rfl, World.ownsRow_made w #[] 0 (Nat.zero_le _) (Nat.zero_le _) (by simp), fun i h => absurd h (by simp), by simp [blocksOf, Value.ownBlock]⟩
theorem infoPs : (Tryz.prog.info? 30).map (fun i => (i.zero, i.size, i.bytes)) = some (some (.slice none 0 0), 1, 24) := by kernel_rfl
def EPost (w : World) (m : Nat) (P : Nat → Option (List Pr)) (e : Ending) (w' : World) : Prop :=
  Below w.heap.size w w' ∧ ∃ g cap ps q ok, e = .returned (.tuple #[.slice (some ⟨g, 0, none⟩) ps.length cap, .bool ok]) ∧ OwnG 30 tableR w' (.slice (some ⟨g, 0, none⟩) ps.length cap) ps q ∧ (∀ p ∈ q, ∃ g n c, p.1 = [.slice (some ⟨g, 0, none⟩) n c]) ∧ ((ok = true ∧ ps.length = m ∧ ∀ j (hj : j < ps.length), P j = some ps[j]) ∨ (ok = false ∧ ps = [] ∧ ∃ k, k < m ∧ P k = none))
set_option maxRecDepth 100000 in
set_option maxHeartbeats 8000000 in
theorem i_checkEach (lo hi : ByteArray) (A H X : Nat) (ra : Option Addr) (rn rc : Nat) (rs : List ByteArray) (ps : List Pf) (pa : Option Addr) (pn pc : Nat) (w : World) (hc : Caps w lo hi A H X ra rn rc rs) (hP : PJ w pa pn ps) (hpr : ps.length = rs.length) (hr8 : rs.length ≤ 8) (hlo : lo.size ≤ 1048576) (hhi : hi.size ≤ 1048576) (hrs : rs.length + puttexts.sum rs ≤ 1048576) (hrc : rn ≤ rc) (hK : sha.KW w) :
    Calls Tryz.prog 24 #[.slice pa pn pc, .func (.func 25) #[] #[.pointer (some ⟨X, 0, none⟩), .pointer (some ⟨A, 0, none⟩), .pointer (some ⟨H, 0, none⟩)]] w (EPost w ps.length (partB rs.length lo hi rs ps)) := by
  obtain rfl : ps.length = pn := hP.1
  obtain ⟨i0, hif, hz0, hz1, hz2⟩ := info_parts infoPs
  have hp8 : ps.length ≤ 8 := by omega
  have HPR := Hid.mk' hpr
  clear hpr
  have HH := Hid.mk' hP
  have HC := Hid.mk' (fun (k : Nat) (hk : k < ps.length) (ia : Option Addr) (ic : Nat) (wx : World) (hx : Below w.heap.size w wx) (hJ : SlJ wx ia ps[k].2.2.length ps[k].2.2) (hw1 : (Lit.int .i64 ps[k].1).wf = true) (hw2 : (Lit.int .i64 ps[k].2.1).wf = true) => i_checkOne lo hi A H X ra rn rc rs ps k ia ic wx (hc.below hx) (by have := HPR.out; omega) hk hJ hw1 hw2 hlo hhi hrs hrc (hK.below hx))
  clear hP hc
  generalize partB rs.length lo hi rs ps = P at *
  go_enter Tryz.func24, Tryz.ntmps24
  go_wp2_with (at_make; refine wpList_make_own _ rfl _ _ 59 rfl 0 30 i0 (.slice none 0 0) 1 Tryz.underlying59 hif hz0 hz1 _ _ _ ps.length rfl rfl rfl ?b2 ?b3 ?b4 ?_)
  case b2 => rw [hz2]; omega
  case b3 => unfold maxLen; omega
  case b4 => exact Nat.zero_le _
  intro w1 hown hgrow
  have hb1 : Below w.heap.size w w1 := (Below.refl _ _).grown hgrow (Nat.le_refl _) (fun k e => by cases e)
  have hOw0 := ownG_rowP (R := tableR) (ty := 30) hown
  clear hown hgrow hif hz0 hz1 hz2
  go_wp2_with fail
  go_loopw [16, 6] (fun i s wr => ∃ (g cap : Nat) (L : List (List Pr)) (q : Parts), L.length ≤ ps.length ∧ i = .int .i64 (L.length : Int) ∧ s = .slice (some ⟨g, 0, none⟩) L.length cap ∧ OwnG 30 tableR wr (.slice (some ⟨g, 0, none⟩) L.length cap) L q ∧ (∀ b ∈ g :: blocksOf q, w.heap.size ≤ b) ∧ (∀ p ∈ q, ∃ g n c, p.1 = [.slice (some ⟨g, 0, none⟩) n c]) ∧ (∀ j (hj : j < L.length), P j = some L[j]) ∧ Below w.heap.size w wr) (fun i _ _ => ps.length - (intOf i).toNat)
  case atStart => exact ⟨_, _, [], [], Nat.zero_le _, rfl, rfl, hOw0, fun b hb => by simp [blocksOf] at hb; omega, fun p hp => absurd hp (by simp), fun j hj => absurd hj (by simp), hb1⟩
  case round =>
    obtain ⟨g, cap, L, q, hk, rfl, rfl, hO, hq, hsh, hall, hBw⟩ := hrel
    have HSH := Hid.mk' hsh
    clear hsh
    clear hOw0 hb1
    by_cases hlt : L.length < ps.length
    · have hki : (L.length : Int) < (ps.length : Int) := by omega
      obtain ⟨b, off, e, hcl⟩ := HH.out.2.2 (by omega)
      subst e
      obtain ⟨ia, ic, c0, c1, c2, hJ, hw1, hw2⟩ := hcl L.length hlt
      have d0 := (hBw.cell (p := ⟨b, off + L.length * 3, none⟩) (World.block_lt_of_cell? w _ c0)).trans c0
      have d1 := (hBw.cell (p := ⟨b, off + L.length * 3 + 1, none⟩) (World.block_lt_of_cell? w _ c1)).trans c1
      have d2 := (hBw.cell (p := ⟨b, off + L.length * 3 + 2, none⟩) (World.block_lt_of_cell? w _ c2)).trans c2
      obtain ⟨U, hU⟩ : ∃ U, wr.alloc (.cells #[.int .i64 ps[L.length].1, .int .i64 ps[L.length].2.1, .slice ia ps[L.length].2.2.length ic] 64) = U := ⟨_, rfl⟩
      have hbu : Below wr.heap.size wr U := by rw [← hU]; exact below_make
      have hXU : BoxIn wr.heap.size 64 [] [.int .i64 ps[L.length].1, .int .i64 ps[L.length].2.1, .slice ia ps[L.length].2.2.length ic] [] U := by rw [← hU]; exact boxIn_new wr _ _
      have hBu := hBw.trans (hbu.mono hBw.size)
      have x0 := hXU.cell 0 _ rfl
      have x1 := hXU.cell 1 _ rfl
      have x2 := hXU.cell 2 _ rfl
      simp only [List.length_nil, Nat.zero_add] at x0 x1 x2
      rw [← hU] at x0 x1 x2
      have HCK := Hid.mk' (HC.out L.length hlt ia ic U hBu (hJ.below hBu) hw1 hw2)
      have HO := Hid.mk' (hO.below hbu)
      have HU := Hid.mk' hU
      have HALL := Hid.mk' hall
      have HQ := Hid.mk' hq
      clear hcl c0 c1 c2 hJ hw1 hw2 hU hXU hO hall hq
      generalize ps[L.length].2.2.length = il at *
      generalize ps[L.length].1 = fn at *
      generalize ps[L.length].2.1 = ff at *
      go_wp2_with fail
      rw [HU.out]
      refine HCK.out.mono ?_
      rintro e w2 ⟨hb2, g2, n2, c2, l, rfl, hO2, hl2⟩
      have hB2 := hBu.trans (hb2.mono hBu.size)
      cases hpk : P L.length with
      | none =>
        obtain ⟨V, hV⟩ : ∃ V, w2.alloc (.cells #[] 30) = V := ⟨_, rfl⟩
        have hbv : Below w2.heap.size w2 V := by rw [← hV]; exact below_make
        have hOV : OwnG 30 tableR V (.slice (some ⟨w2.heap.size, 0, none⟩) 0 0) [] [] := by rw [← hV]; exact ownG_madeP _ _ _
        have HOV := Hid.mk' hOV
        have HV := Hid.mk' hV
        have HPK := Hid.mk' hpk
        have HB3 := Hid.mk' (hB2.trans (hbv.mono hB2.size))
        simp only [Option.isSome_none] at *
        clear x0 x1 x2 hV hOV hpk HO HU d0 d1 d2 hl2
        go_wp2_with fail
        rw [HV.out]
        go_ret2
        exact ⟨HB3.out, _, _, [], [], false, rfl, HOV.out, fun p hp => absurd hp (by simp), .inr ⟨rfl, rfl, L.length, hlt, HPK.out⟩⟩
      | some l0 =>
        obtain rfl : l = l0 := hl2 l0 hpk
        obtain ⟨V, hV⟩ : ∃ V, w2.alloc (.cells #[.slice (some ⟨g2, 0, none⟩) n2 c2] 30) = V := ⟨_, rfl⟩
        have hbv : Below w2.heap.size w2 V := by rw [← hV]; exact below_make
        have hXV : BoxIn w2.heap.size 30 [] [.slice (some ⟨g2, 0, none⟩) n2 c2] [] V := by rw [← hV]; exact boxIn_new w2 _ _
        have hBV := hB2.trans (hbv.mono hB2.size)
        have hOk := HO.out.below hb2
        have hlts := HO.out.lts
        have hg2 := hO2.lt
        obtain ⟨g', cap', w3, hrun, hO3, hgr, hat⟩ := cos.OwnG.appRun (P := Tryz.prog) (z := .slice none 0 0) Tryz.underlying59 infoPs rfl (by decide) (hOk.below hbv) (tableR.ownBelow (table_ownP hO2) hbv) (fun b hb hc => by
          have h1 : b = g2 := by simpa using hb
          have h2 := hlts b (by simpa [Value.ownBlock] using hc)
          omega) hXV (by unfold maxLen; omega) (by omega) 59
        have hs1 := hBV.size
        have hs2 := hBu.size
        have hB3 := hBV.grown hgr hBV.size (fun b e => by have e1 : g = b := by simpa [Value.ownBlock] using e
                                                          have := HQ.out g (by simp); omega)
        have HQ3 : Hid (∀ b ∈ g' :: blocksOf (q ++ [([.slice (some ⟨g2, 0, none⟩) n2 c2], [g2])]), w.heap.size ≤ b) := fun b hb => by
          rw [blocksOf_append] at hb
          rcases List.mem_cons.1 hb with e | e
          · rcases hat with e2 | e2
            · have e1 : g = g' := by simpa [Value.ownBlock] using e2
              have := HQ.out g (by simp); omega
            · omega
          · rcases List.mem_append.1 e with e | e
            · exact HQ.out b (List.mem_cons_of_mem _ e)
            · have e1 : b = g2 := by simpa [blocksOf] using e
              omega
        have HSH3 : Hid (∀ p ∈ q ++ [([Value.slice (some ⟨g2, 0, none⟩) n2 c2], [g2])], ∃ g n c, p.1 = [.slice (some ⟨g, 0, none⟩) n c]) := fun p hp => by
          rcases List.mem_append.1 hp with e | e
          · exact HSH.out p e
          · rw [List.mem_singleton.1 e]; exact ⟨_, _, _, rfl⟩
        have HL1 : Hid ((L ++ [l]).length = L.length + 1) := by show _ = _; simp
        have HALL3 : Hid (∀ j (hj : j < (L ++ [l]).length), P j = some (L ++ [l])[j]) := fun j hj => by
          by_cases e : j < L.length
          · rw [List.getElem_append_left e]; exact HALL.out j e
          · have hj2 : j = L.length := by rw [HL1.out] at hj; omega
            subst hj2
            rw [List.getElem_append_right (Nat.le_refl _), hpk]
            simp
        have HV := Hid.mk' hV
        have HO3 := Hid.mk' hO3
        have hii : (L.length : Int) + 1 = ((L.length + 1 : Nat) : Int) := by omega
        have HB3 := Hid.mk' hB3
        simp only [Option.isSome_some] at *
        clear x0 x1 x2 hV hXV hOk hO3 hlts hgr hat hl2 HO HU d0 d1 d2 hpk hO2 hB3 hs1 hs2 HALL hii
        go_wp2_with (at_builtin; rw [HV.out]; refine cos.wpList_append_run rfl _ _ 59 rfl (by kernel_rfl) (by kernel_rfl) hrun ?_)
        go_wp2_with fail
        go_roundw
        case rel => exact ⟨g', cap', L ++ [l], _, by rw [HL1.out]; omega, by rw [HL1.out]; go_num, by rw [HL1.out], by rw [HL1.out]; exact HO3.out, HQ3.out, HSH3.out, HALL3.out, HB3.out⟩
        case measure => simp [intOf]; omega
    · have hki : ¬ (L.length : Int) < (ps.length : Int) := by omega
      have HO := Hid.mk' hO
      have HALL := Hid.mk' hall
      have hle : L.length = ps.length := by omega
      have HLE := Hid.mk' hle
      clear hO hall hq hle
      go_wp2_with fail
      go_ret2
      exact ⟨hBw, _, _, L, q, true, rfl, HO.out, HSH.out, .inl ⟨rfl, HLE.out, HALL.out⟩⟩
theorem part_at {w : World} {g n cap : Nat} {L : List (List Pr)} {q : Parts} (h : OwnG 30 tableR w (.slice (some ⟨g, 0, none⟩) n cap) L q) (hs : ∀ p ∈ q, ∃ g n c, p.1 = [.slice (some ⟨g, 0, none⟩) n c]) (i : Nat) (hi : i < L.length) : ∃ g2 n2 c2, w.cell? ⟨g, i, none⟩ = some (.slice (some ⟨g2, 0, none⟩) n2 c2) ∧ OwnP w 0 g2 n2 c2 L[i] := by
  have hl := h.len
  obtain ⟨g2, n2, c2, e⟩ := hs (q[i]'(by omega)) (List.getElem_mem _)
  have hc := h.cells i hi
  have he := h.each i hi
  rw [e] at hc he
  have c0 := hc 0 _ rfl
  rw [show i * tableR.size + 0 = i by show i * 1 + 0 = i; omega] at c0
  exact ⟨g2, n2, c2, c0, table_P he⟩
set_option maxRecDepth 100000 in
set_option maxHeartbeats 8000000 in
theorem impl_checkBundle : ImplCheck := by
  intro super lo hi ra rn rc pa pn pc x w hno hsu hlo hhi hp hR hrs hP hps hrc hpc hK
  obtain ⟨no, pv, rs, ps⟩ := x
  simp only [] at *
  obtain rfl : rs.length = rn := hR.1
  obtain rfl : ps.length = pn := hP.1
  have hplm := hP.2.1
  unfold maxLen at hplm
  obtain ⟨W, hW⟩ : ∃ W, (((w.alloc (.cells #[.string lo] 9)).alloc (.cells #[.string hi] 9)).alloc (.cells #[.int .i64 no, .string pv, .slice ra rs.length rc, .slice pa ps.length pc] 27)).alloc (.cells #[] 34) = W := ⟨_, rfl⟩
  obtain ⟨W1, hW1⟩ : ∃ W, w.alloc (.cells #[.string lo] 9) = W := ⟨_, rfl⟩
  obtain ⟨W2, hW2⟩ : ∃ W, W1.alloc (.cells #[.string hi] 9) = W := ⟨_, rfl⟩
  obtain ⟨W3, hW3⟩ : ∃ W, W2.alloc (.cells #[.int .i64 no, .string pv, .slice ra rs.length rc, .slice pa ps.length pc] 27) = W := ⟨_, rfl⟩
  have hWW : W3.alloc (.cells #[] 34) = W := by rw [← hW3, ← hW2, ← hW1]; exact hW
  have hs1 : W1.heap.size = w.heap.size + 1 := by rw [← hW1]; simp
  have hs2 : W2.heap.size = w.heap.size + 2 := by rw [← hW2]; simp [hs1]
  have hs3 : W3.heap.size = w.heap.size + 3 := by rw [← hW3]; simp [hs2]
  have q1 : Below w.heap.size w W1 := by rw [← hW1]; exact below_make
  have q2 : Below W1.heap.size W1 W2 := by rw [← hW2]; exact below_make
  have q3 : Below W2.heap.size W2 W3 := by rw [← hW3]; exact below_make
  have hA : BoxIn w.heap.size 9 [] [.string lo] [] W1 := by rw [← hW1]; exact boxIn_new w _ _
  have hH : BoxIn W1.heap.size 9 [] [.string hi] [] W2 := by rw [← hW2]; exact boxIn_new W1 _ _
  have hX : BoxIn W2.heap.size 27 [] [.int .i64 no, .string pv, .slice ra rs.length rc, .slice pa ps.length pc] [] W3 := by rw [← hW3]; exact boxIn_new W2 _ _
  rw [hs1] at hH
  rw [hs2] at hX
  have hb3 : Below w.heap.size w W3 := q1.trans ((q2.trans (q3.mono q2.size)).mono q1.size)
  have hb4 : Below W3.heap.size W3 W := by rw [← hWW]; exact below_make
  have hB := hb3.trans (hb4.mono hb3.size)
  have a0 := ((hA.below q2).below q3).cell 0 _ rfl
  have b0 := (hH.below q3).cell 0 _ rfl
  simp only [List.length_nil, Nat.zero_add] at a0 b0
  obtain ⟨y0, y1, y2, y3⟩ := box4 hX
  have keep : ∀ {b o v}, W3.cell? ⟨b, o, none⟩ = some v → W.cell? ⟨b, o, none⟩ = some v := fun {b o v} hv => (hb4.cell (p := ⟨b, o, none⟩) (World.block_lt_of_cell? _ _ hv)).trans hv
  have z3 := keep y3
  have HCP := Hid.mk' (show Caps W lo hi w.heap.size (w.heap.size + 1) (w.heap.size + 2) ra rs.length rc rs from ⟨keep a0, keep b0, keep y2, hR.below hB⟩)
  replace y0 := keep y0
  replace y1 := keep y1
  replace y2 := keep y2
  replace y3 := keep y3
  have hON : OwnP W w.heap.size (w.heap.size + 3) 0 0 [] := by
    rw [← hWW, ← hs3]
    exact ownP_made W3 w.heap.size (by omega)
  have HIS := Hid.mk' (i_isOf super ra rs.length rc pa ps.length pc (no, pv, rs, ps) W hno hp (hR.below hB) hrs rfl (by omega) (hK.below hB))
  have HCE := Hid.mk' (fun wx (hx : Below W.heap.size W wx) (hpr : ps.length = rs.length) (hr8 : rs.length ≤ 8) => i_checkEach lo hi w.heap.size (w.heap.size + 1) (w.heap.size + 2) ra rs.length rc rs ps pa ps.length pc wx (HCP.out.below hx) ((hP.below hB).below hx) hpr hr8 hlo hhi hrs hrc ((hK.below hB).below hx))
  have HIB : Hid (isB super (no, pv, rs, ps) = (decide (1 ≤ rs.length ∧ rs.length ≤ 8) && decide (ps.length = rs.length) && decide (superOf no pv rs = super))) := rfl
  have HR : Hid (checkB super lo hi (no, pv, rs, ps) = if superOf no pv rs = super ∧ (1 ≤ rs.length ∧ rs.length ≤ 8) ∧ ps.length = rs.length then sumB rs.length lo hi rs ps rs.length else none) := rfl
  have HPL := Hid.mk' (fun k l (e : partB rs.length lo hi rs ps k = some l) => part_len (n := rs.length) (lo := lo) (hi := hi) (roots := rs) hps e)
  have HW := Hid.mk' hW
  generalize checkB super lo hi (no, pv, rs, ps) = CB at *
  generalize isB super (no, pv, rs, ps) = ib at *
  rw [← hW] at y0 y1 y2 y3
  clear hW hWW hW1 hW2 hW3 hb3 hb4 hs1 hs2 hs3 a0 b0 keep hR hP hps hK q1 q2 q3 hA hH hX
  cases ib
  · have HF : Hid (CB = none) := by
      show _ = _
      rw [HR.out, if_neg]
      rintro ⟨e1, e2, e3⟩
      have := HIB.out
      rw [decide_eq_true e1, decide_eq_true e2, decide_eq_true e3] at this
      cases this
    clear HR HIB HCE HPL
    go_enter Tryz.func7, Tryz.ntmps7
    go_wp2_with fail
    rw [HW.out]
    refine HIS.out.mono ?_
    rintro e w1 ⟨rfl, hb1⟩
    have hB1 := hB.trans (hb1.mono hB.size)
    have HO1 := Hid.mk' (hON.below hb1)
    go_wp2_with fail
    go_ret2
    rw [HF.out]
    exact ⟨hB1, _, _, _, rfl, HO1.out⟩
  have hcond : superOf no pv rs = super ∧ (1 ≤ rs.length ∧ rs.length ≤ 8) ∧ ps.length = rs.length := by
    have := HIB.out.symm
    simp only [Bool.and_eq_true, decide_eq_true_eq] at this
    exact ⟨this.2, this.1.1, this.1.2⟩
  have HCB : Hid (CB = sumB rs.length lo hi rs ps rs.length) := by show _ = _; rw [HR.out, if_pos hcond]
  have HCX := Hid.mk' (fun wx (hx : Below W.heap.size W wx) => HCE.out wx hx hcond.2.2 hcond.2.1.2)
  have HPR := Hid.mk' hcond.2.2
  have hr8 := hcond.2.1.2
  clear HR HIB HCE hcond
  go_enter Tryz.func7, Tryz.ntmps7
  go_wp2_with fail
  rw [HW.out]
  refine HIS.out.mono ?_
  rintro e w1 ⟨rfl, hb1⟩
  have hB1 := hB.trans (hb1.mono hB.size)
  have HO1 := Hid.mk' (hON.below hb1)
  have HEC := Hid.mk' (HCX.out w1 hb1)
  have u3 := (hb1.cell (p := ⟨w.heap.size + 2, 3, none⟩) (World.block_lt_of_cell? _ _ z3)).trans z3
  clear y0 y1 y2 y3 z3 HIS HCX hON HW HCP
  go_wp2_with fail
  refine HEC.out.mono ?_
  rintro e w2 ⟨hb2, g2, c2, L, q, ok, rfl, hO2, hsh, hcs⟩
  have hB2 := hB1.trans (hb2.mono hB1.size)
  have HO2 := Hid.mk' hO2
  have HSH := Hid.mk' hsh
  have HLL : Hid (∀ l ∈ L, l.length ≤ 1048576) := fun l hl => by
    rcases hcs with ⟨_, hL, hall⟩ | ⟨_, rfl, _⟩
    · obtain ⟨j, hj, rfl⟩ := List.getElem_of_mem hl
      exact HPL.out j _ (hall j hj)
    · cases hl
  have HFB := Hid.mk' (foldB_len HLL.out)
  have HCR : Hid (CB = if ok = true then some (foldB L) else none) := by
    show _ = _
    rw [HCB.out]
    rcases hcs with ⟨rfl, hL, hall⟩ | ⟨rfl, rfl, k, hk, hpk⟩
    · rw [if_pos rfl]
      have hp := HPR.out
      have := sum_parts (n := rs.length) (lo := lo) (hi := hi) (roots := rs) (proofs := ps) hall L.length (Nat.le_refl _)
      rw [List.take_length, hL, hp] at this
      exact this
    · rw [if_neg (by simp)]
      exact sumB_none hpk _ (by have := HPR.out; omega)
  have hL8 : L.length ≤ 8 := by
    rcases hcs with ⟨_, hL, _⟩ | ⟨_, rfl, _⟩
    · have := HPR.out; omega
    · simp
  have HNIL : Hid (ok = false → L = []) := fun e => by
    rcases hcs with ⟨h, _⟩ | ⟨_, h, _⟩
    · rw [e] at h; cases h
    · exact h
  have HO1' := Hid.mk' (HO1.out.below hb2)
  clear hO2 hsh hcs HCB HPL HEC u3 HO1 hb2
  go_wp2_with fail
  go_loopw [30, 10] (fun i s wr => ∃ (k g n c : Nat), k ≤ L.length ∧ i = .int .i64 (k : Int) ∧ s = .slice (some ⟨g, 0, none⟩) n c ∧ OwnP wr w.heap.size g n c (foldB (L.take k)) ∧ Below w2.heap.size w2 wr) (fun i _ _ => L.length - (intOf i).toNat)
  case atStart => exact ⟨0, _, _, _, Nat.zero_le _, rfl, rfl, HO1'.out, Below.refl _ _⟩
  case round =>
    obtain ⟨k, g, n, c, hk, rfl, rfl, hO, hBw⟩ := hrel
    by_cases hlt : k < L.length
    · have hki : (k : Int) < (L.length : Int) := by omega
      obtain ⟨g5, n5, c5, d0, hO5⟩ := part_at (HO2.out.below hBw) HSH.out k hlt
      have hfl := HFB.out k hk
      have hll := HLL.out L[k] (List.getElem_mem hlt)
      have hn1 := hO.1
      have hn2 := hO5.1
      have HUN := Hid.mk' (impl_unionOf g 0 n c (foldB (L.take k)) g5 0 n5 c5 L[k] wr hO.sl hO5.sl (OwnP.cases hO).1 (OwnP.cases hO5).1 (by omega))
      rw [← foldB_take L k hlt] at HUN
      clear hO hO5 hfl hll hn1 hn2
      go_wp2_with fail
      refine HUN.out.mono ?_
      rintro e w6 ⟨g6, n6, c6, rfl, hO6, hb6⟩
      have hB6 := hBw.trans (hb6.mono hBw.size)
      have HO6 := Hid.mk' (hO6.mono (base' := w.heap.size) (Nat.le_trans hB2.size hBw.size))
      clear hO6
      go_wp2_with fail
      go_roundw
      case rel => exact ⟨k + 1, g6, n6, c6, by omega, by go_num, rfl, HO6.out, hB6⟩
      case measure => simp [intOf]; omega
    · have hki : ¬ (k : Int) < (L.length : Int) := by omega
      rw [List.take_of_length_le (by omega)] at hO
      have hBf := hB2.trans (hBw.mono hB2.size)
      have HO := Hid.mk' hO
      clear hO
      cases ok
      · have HF : Hid (CB = none) := by show _ = _; rw [HCR.out]; rfl
        have HZ : Hid (foldB L = []) := by show _ = _; rw [HNIL.out rfl]; rfl
        go_wp2_with fail
        go_ret2
        rw [HF.out]
        exact ⟨hBf, g, n, c, rfl, by have := HO.out; rw [HZ.out] at this; exact this⟩
      · have HF : Hid (CB = some (foldB L)) := by show _ = _; rw [HCR.out]; rfl
        go_wp2_with fail
        go_ret2
        rw [HF.out]
        exact ⟨hBf, g, n, c, rfl, HO.out⟩
end Go.Proofs.YteammdkipnfmnaaGreatDoor.bun

namespace Go.Proofs.YteammdkipnfmnaaGreatDoor.lay
open Go Go.RowKit Go.Proofs.YteammdkipnfmnaaGreatDoor.base
set_option linter.unusedVariables false
set_option linter.unusedSimpArgs false

def Reads {α : Type} (P : Program) (t : TypeId) (R : Rd α) : Prop :=
  ∀ (H : Type) (enc : TypeId × Value → H) (W : World) (fuel : Nat) (vs : List Value) (x : DataW H × List MemPlace), vs.length = R.size → DataW.trod enc P W 0 (fun _ => true) true fuel t vs = some x → ∃ y, R.see W vs y
section
variable {α : Type} {P : Program} {t e : TypeId} {R : Rd α}
theorem reads_int (ht : P.underlying t = some (.int .i64)) : Reads P t int := fun H enc W fuel vs x hl h => by
  obtain ⟨n, rfl, _, hw⟩ := DataW.trod_int ht h
  exact ⟨n, rfl, hw⟩
theorem reads_str (ht : P.underlying t = some .string) : Reads P t str := fun H enc W fuel vs x hl h => by
  obtain ⟨s, rfl, _, hs⟩ := DataW.trod_string ht h
  exact ⟨s, rfl, hs⟩
theorem reads_slice [Inhabited α] (ty : TypeId) (ht : P.underlying t = some (.slice e)) (hc : P.cellsOf e = R.size) (h0 : 0 < R.size) (hR : Reads P e R) : Reads P t (lay.slice ty R) := fun H enc W fuel vs x hl h => by
  rcases Deep.open_slice ht h with ⟨rfl, _⟩ | ⟨ad, len, cap, m, n, D, Pl, rfl, hb, hlc, hm, hmm, _, hx⟩
  · exact ⟨[], none, 0, 0, rfl, Nat.le_refl _, rfl, Nat.zero_le _, fun x hx => absurd hx List.not_mem_nil, fun h => absurd h (by omega)⟩
  · simp at hmm
    have each : ∀ i, i < len → ∃ y : α, ∃ us, R.see W us y ∧ ∀ j u, us[j]? = some u → W.cell? (ad.add (i * R.size + j)) = some u := by
      intro i hi
      obtain ⟨cs', h1, h2⟩ := hx i (by omega)
      rw [hc] at h1
      obtain ⟨_, hlen, hcell⟩ := World.cells?_some h1
      obtain ⟨y, hy⟩ := hR H enc W n cs' _ hlen h2
      refine ⟨y, cs', hy, fun j u hj => ?_⟩
      have hjl := (List.getElem?_eq_some_iff.1 hj).1
      have := hcell j (by omega)
      rw [Deep.add_add] at this
      rw [this]; exact hj
    obtain ⟨q, hq⟩ := Deep.choose_lt each
    refine ⟨(List.range len).map q, some ad, len, cap, rfl, hlc, by simp, by omega, fun x hx => ?_, fun hl0 => ?_⟩
    · obtain ⟨i, hi, rfl⟩ := List.mem_map.1 hx
      obtain ⟨us, h1, _⟩ := hq i (List.mem_range.1 hi)
      exact ⟨us, h1⟩
    · obtain ⟨b, off, spot⟩ := ad
      obtain ⟨us0, hs0, hc0⟩ := hq 0 hl0
      have hl0 := R.seeLen hs0
      obtain ⟨u0, hu0⟩ : ∃ u, us0[0]? = some u := ⟨us0[0]'(by omega), List.getElem?_eq_getElem (by omega)⟩
      have hspot : spot = none := by simpa [Addr.add] using World.cell?_spot (hc0 0 u0 hu0)
      subst hspot
      refine ⟨b, off, rfl, fun i hi => ?_⟩
      have hi' : i < len := by simpa using hi
      obtain ⟨us, h1, h2⟩ := hq i hi'
      simp only [List.getElem_map, List.getElem_range]
      refine ⟨us, h1, fun j u hj => ?_⟩
      have := h2 j u hj
      rw [Addr.add_lit, ← Nat.add_assoc] at this
      exact this
theorem arg_struct {H : Type} {enc : TypeId × Value → H} {W : World} {r : Reach} {base fuel : Nat} {v : Value} {fs : Array Field} {x : DataW H × List MemPlace} (ht : P.underlying t = some (.struct fs)) (hc : P.cellsOf t = R.size) (hR : Reads P t R) (hok : Value.okWide P W r base t v) (h : DataW.trod enc P W 0 (fun _ => true) true fuel t v.cells.toList = some x) : ∃ cs y, v = .agg cs.toArray ∧ R.see W cs y := by
  obtain ⟨cs, rfl, hsz⟩ := WideShapes.okWide_struct ht hok
  obtain ⟨l⟩ := cs
  rw [hc] at hsz
  obtain ⟨y, hy⟩ := hR H enc W fuel l x hsz h
  exact ⟨l, y, rfl, hy⟩
end
end Go.Proofs.YteammdkipnfmnaaGreatDoor.lay

namespace Go.Proofs.YteammdkipnfmnaaGreatDoor.seals
open Go Go.RowKit Go.Proofs.YteammdkipnfmnaaGreatDoor.base Go.Proofs.YteammdkipnfmnaaGreatDoor.pairs Go.Proofs.YteammdkipnfmnaaGreatDoor.lay
set_option linter.unusedVariables false
set_option linter.unusedSimpArgs false

end Go.Proofs.YteammdkipnfmnaaGreatDoor.seals

namespace Go.Proofs.YteammdkipnfmnaaGreatDoor.bun
open Go Go.RowKit Go.Proofs.YteammdkipnfmnaaGreatDoor.base Go.Proofs.YteammdkipnfmnaaGreatDoor.pairs Go.Proofs.YteammdkipnfmnaaGreatDoor.lay Go.Proofs.YteammdkipnfmnaaGreatDoor.range Go.Proofs.YteammdkipnfmnaaGreatDoor.seals
set_option linter.unusedVariables false
set_option linter.unusedSimpArgs false

def prR : Rd Pr := both str str
def itemR : Rd It := both prR textsR
theorem items_of {w : World} {a : Option Addr} {n : Nat} {l : List It} (h : SlG itemR w a n l) : SlI w a n l := by
  obtain ⟨h1, h2, h3, h4⟩ := h
  refine ⟨h1, h2, fun x hx => ?_, fun h0 => ?_⟩
  · obtain ⟨vs, u1, t1, _, ⟨u2, t2, _, q1, q2⟩, a', n', c', _, _, hs⟩ := h3 x hx
    refine ⟨⟨(cos.flat_str.see.1 q1).2, (cos.flat_str.see.1 q2).2⟩, fun s hs' => ?_⟩
    obtain ⟨_, _, g3, _⟩ := hs
    obtain ⟨vs', hv⟩ := g3 s hs'
    exact (cos.flat_str.see.1 hv).2
  · obtain ⟨b, off, e, hi⟩ := h4 h0
    refine ⟨b, off, e, fun i hl => ?_⟩
    obtain ⟨vs, ⟨u1, t1, rfl, ⟨u2, t2, rfl, q1, q2⟩, q3⟩, hcl⟩ := hi i hl
    obtain ⟨rfl, _⟩ := cos.flat_str.see.1 q1
    obtain ⟨rfl, _⟩ := cos.flat_str.see.1 q2
    obtain ⟨pa, pl, pc, rfl, _⟩ := id q3
    have q4 := texts_see.1 q3
    exact ⟨hcl 0 _ rfl, hcl 1 _ rfl, pa, pl, pc, hcl 2 _ rfl, q4.1, q4.2⟩
set_option maxRecDepth 100000 in
theorem reads_pair : Reads Tryz.prog 166 prR := fun H enc W fuel vs x hl h => by
  obtain ⟨xs, m, _, _, _, hxl, hel⟩ := DataW.trod_struct Tryz.underlying166 h
  match vs, (show vs.length = 2 from hl) with
  | [v0, v1], _ =>
    match xs, (show xs.length = 2 from hxl) with
    | [x0, x1], _ =>
      have k0 := hel 0 _ rfl
      have k1 := hel 1 _ rfl
      have e0 : Tryz.prog.cellsOf 9 = 1 := by kernel_rfl
      simp [e0] at k0 k1
      obtain ⟨y0, s0⟩ := (reads_str Tryz.underlying9) H enc W m _ x0 rfl k0
      obtain ⟨y1, s1⟩ := (reads_str Tryz.underlying9) H enc W m _ x1 rfl k1
      exact ⟨(y0, y1), ⟨[v0], [v1], rfl, s0, s1⟩⟩
set_option maxRecDepth 100000 in
theorem reads_item : Reads Tryz.prog 168 itemR := fun H enc W fuel vs x hl h => by
  obtain ⟨xs, m, _, _, _, hxl, hel⟩ := DataW.trod_struct Tryz.underlying168 h
  match vs, (show vs.length = 3 from hl) with
  | [v0, v1, v2], _ =>
    match xs, (show xs.length = 2 from hxl) with
    | [x0, x1], _ =>
      have k0 := hel 0 _ rfl
      have k1 := hel 1 _ rfl
      have e0 : Tryz.prog.cellsOf 166 = 2 := by kernel_rfl
      have e1 : Tryz.prog.cellsOf 24 = 1 := by kernel_rfl
      simp [e0, e1] at k0 k1
      obtain ⟨y0, s0⟩ := reads_pair H enc W m _ x0 rfl k0
      obtain ⟨y1, s1⟩ := (reads_slice _ Tryz.underlying24 (by kernel_rfl) (by decide) (reads_str Tryz.underlying9)) H enc W m _ x1 rfl k1
      exact ⟨(y0, y1), ⟨[v0, v1], [v2], rfl, s0, s1⟩⟩
theorem reads_items : Reads Tryz.prog 118 itemsR := fun H enc W fuel vs x hl h => by
  obtain ⟨y, a, n, c, rfl, hc, hs⟩ := (reads_slice (R := itemR) 107 Tryz.underlying118 (by kernel_rfl) (by decide) reads_item) H enc W fuel vs x hl h
  exact ⟨y, a, n, c, rfl, hc, items_of hs⟩
set_option maxRecDepth 100000 in
theorem reads_proof : Reads Tryz.prog 120 proofR := fun H enc W fuel vs x hl h => by
  obtain ⟨xs, m, _, _, _, hxl, hel⟩ := DataW.trod_struct Tryz.underlying120 h
  match vs, (show vs.length = 3 from hl) with
  | [v0, v1, v2], _ =>
    match xs, (show xs.length = 3 from hxl) with
    | [x0, x1, x2], _ =>
      have k0 := hel 0 _ rfl
      have k1 := hel 1 _ rfl
      have k2 := hel 2 _ rfl
      have e0 : Tryz.prog.cellsOf 3 = 1 := by kernel_rfl
      have e1 : Tryz.prog.cellsOf 118 = 1 := by kernel_rfl
      simp [e0, e1] at k0 k1 k2
      obtain ⟨y0, s0⟩ := (reads_int Tryz.underlying3) H enc W m _ x0 rfl k0
      obtain ⟨y1, s1⟩ := (reads_int Tryz.underlying3) H enc W m _ x1 rfl k1
      obtain ⟨y2, s2⟩ := reads_items H enc W m _ x2 rfl k2
      exact ⟨(y0, (y1, y2)), ⟨[v0], [v1, v2], rfl, s0, ⟨[v1], [v2], rfl, s1, s2⟩⟩⟩
set_option maxRecDepth 100000 in
theorem reads_bundle : Reads Tryz.prog 38 bundleR := fun H enc W fuel vs x hl h => by
  obtain ⟨xs, m, _, _, _, hxl, hel⟩ := DataW.trod_struct Tryz.underlying38 h
  match vs, (show vs.length = 4 from hl) with
  | [v0, v1, v2, v3], _ =>
    match xs, (show xs.length = 4 from hxl) with
    | [x0, x1, x2, x3], _ =>
      have k0 := hel 0 _ rfl
      have k1 := hel 1 _ rfl
      have k2 := hel 2 _ rfl
      have k3 := hel 3 _ rfl
      have e0 : Tryz.prog.cellsOf 3 = 1 := by kernel_rfl
      have e1 : Tryz.prog.cellsOf 9 = 1 := by kernel_rfl
      have e2 : Tryz.prog.cellsOf 24 = 1 := by kernel_rfl
      have e3 : Tryz.prog.cellsOf 36 = 1 := by kernel_rfl
      simp [e0, e1, e2, e3] at k0 k1 k2 k3
      obtain ⟨y0, s0⟩ := (reads_int Tryz.underlying3) H enc W m _ x0 rfl k0
      obtain ⟨y1, s1⟩ := (reads_str Tryz.underlying9) H enc W m _ x1 rfl k1
      obtain ⟨y2, s2⟩ := (reads_slice _ Tryz.underlying24 (by kernel_rfl) (by decide) (reads_str Tryz.underlying9)) H enc W m _ x2 rfl k2
      obtain ⟨y3, s3⟩ := (reads_slice _ Tryz.underlying36 (by kernel_rfl) (by decide) reads_proof) H enc W m _ x3 rfl k3
      exact ⟨(y0, (y1, (y2, y3))), ⟨[v0], [v1, v2, v3], rfl, s0, ⟨[v1], [v2, v3], rfl, s1, ⟨[v2], [v3], rfl, s2, s3⟩⟩⟩⟩
end Go.Proofs.YteammdkipnfmnaaGreatDoor.bun

namespace Go.Proofs.YteammdkipnfmnaaGreatDoor.door
open Go.ChangeShapes Go.WideShapes Go.ChangeAt Go.RowKit
open Go.ChangeMaps (open_string shut_string)
set_option linter.unusedVariables false
open Go.Proofs.YteammdkipnfmnaaGreatDoor.base

def kd (H : Type) : List (DataW H) := sha.K64.map fun (n : Nat) => .lit (.int .u32 (n : Int))
abbrev laidD : List (String × DataW Unit) := [("loop.example/g00244/impl.roundWords", Rows.laid_loop_example_g00244_impl_roundWords)]
theorem laid_kd : (Rows.laid_loop_example_g00244_impl_roundWords : DataW Unit) = .agg (kd Unit) := rfl
theorem own : ownKnob Tryz.prog.godebug = none := by kernel_rfl
theorem laidOut : laidOutB Tryz.prog = true := by kernel_rfl
theorem gRound : Tryz.prog.globalNamed "loop.example/g00244/impl.roundWords" = some 0 := by kernel_rfl
theorem tRound : (Tryz.prog.globals[0]?).map (·.type) = some 146 := by kernel_rfl
theorem words_of_laid {W : World} (h : laidMetH Tryz.prog laidD W) : sha.KW W := by
  rw [MakeChecks.laidMetH_plain _ _ _ (by kernel_rfl)] at h
  obtain ⟨ps, ⟨g, t, cs, fuel, p, q, hg, ht, hv, hd, _, _⟩, _, _⟩ := h
  obtain rfl := Option.some.inj (gRound.symm.trans hg)
  obtain rfl := Option.some.inj (tRound.symm.trans ht)
  have c1 : Tryz.prog.cellsOf 109 = 1 := by kernel_rfl
  have c64 : Tryz.prog.cellsOf 146 = 64 := by kernel_rfl
  obtain ⟨xs, m, _, ex, hlen, hl, hel⟩ := DataW.trod_array Tryz.underlying146 hd
  rw [c64] at hlen
  rw [laid_kd] at ex
  have e3 := (DataW.agg.inj (Prod.mk.inj ex).1)
  intro i hi
  rw [World.var?_cell gRound hv i]
  have hk := hel i hi
  have hxi : i < xs.length := by omega
  rw [c1, Nat.mul_one, List.getElem?_eq_getElem hxi] at hk
  obtain ⟨z, a0, b0, _⟩ := DataW.trod_int Tryz.underlying109 hk
  have hcs : cs.toList[i]? = some (.int .u32 z) := by
    have := congrArg (·[0]?) a0
    simpa using this
  have hz : (kd Unit)[i]? = some (.lit (.int .u32 z)) := by
    rw [e3]
    simp [hxi, b0]
  have hKl : sha.K64.length = 64 := rfl
  have hz2 : (kd Unit)[i]? = some (.lit (.int .u32 ((sha.K64.getD i 0 : Nat) : Int))) := by
    simp [kd, List.getD, show i < sha.K64.length by omega]
  have e4 : z = ((sha.K64.getD i 0 : Nat) : Int) := by
    have := hz.symm.trans hz2
    simpa using this
  rw [← e4, ← hcs]
  simp

end Go.Proofs.YteammdkipnfmnaaGreatDoor.door
