/- The program's check of a bundle: each proof, and all. -/
import Derived.Test.YteammdkipnfmnaaGreatDoorShbd
namespace Go.Proofs.YteammdkipnfmnaaGreatDoor.bun
open Go Go.RowKit Go.Proofs.YteammdkipnfmnaaGreatDoor.base Go.Proofs.YteammdkipnfmnaaGreatDoor.pairs Go.Proofs.YteammdkipnfmnaaGreatDoor.lay Go.Proofs.YteammdkipnfmnaaGreatDoor.range Go.Proofs.YteammdkipnfmnaaGreatDoor.seals Go.Proofs.YteammdkipnfmnaaGreatDoor.tabs
set_option linter.unusedVariables false
set_option linter.unusedSimpArgs false

theorem ownG_rowP {α : Type} {R : Rd α} {ty : TypeId} {w : World} {g n : Nat} {k : Nat} (h : w.ownsRow k ty R.size (.slice (some ⟨g, 0, none⟩) 0 n) 0 []) : OwnG ty R w (.slice (some ⟨g, 0, none⟩) 0 n) [] [] := by
  refine ⟨rfl, ?_, fun i hi => absurd hi (by simp), by simp [blocksOf, Value.ownBlock]⟩
  obtain ⟨h1, h2⟩ := h
  refine ⟨h1, ?_⟩
  rcases h2 with h2 | ⟨g', c', cur, h2, h3, h4⟩
  · exact .inl h2
  · exact .inr ⟨g', c', cur, h2, Nat.zero_le _, h4⟩
theorem ownG_madeP {α : Type} (ty : TypeId) (R : Rd α) (w : World) : OwnG ty R (w.alloc (.cells #[] ty)) (.slice (some ⟨w.heap.size, 0, none⟩) 0 0) [] [] :=
  ⟨rfl, World.ownsRow_made w #[] 0 (Nat.zero_le _) (Nat.zero_le _) (by simp), fun i h => absurd h (by simp), by simp [blocksOf, Value.ownBlock]⟩
theorem infoPs : (Tryz.prog.info? 30).map (fun i => (i.zero, i.size, i.bytes)) = some (some (.slice none 0 0), 1, 24) := by kernel_rfl
def EPost (w : World) (m : Nat) (P : Nat → Option (List Pr)) (e : Ending) (w' : World) : Prop :=
  Below w.heap.size w w' ∧ ∃ g cap ps q ok, e = .returned (.tuple #[.slice (some ⟨g, 0, none⟩) ps.length cap, .bool ok]) ∧ OwnG 30 tableR w' (.slice (some ⟨g, 0, none⟩) ps.length cap) ps q ∧ (∀ p ∈ q, ∃ g n c, p.1 = [.slice (some ⟨g, 0, none⟩) n c]) ∧ ((ok = true ∧ ps.length = m ∧ ∀ j (hj : j < ps.length), P j = some ps[j]) ∨ (ok = false ∧ ps = [] ∧ ∃ k, k < m ∧ P k = none))
set_option maxRecDepth 100000 in
set_option maxHeartbeats 8000000 in
theorem i_checkEach (lo hi : ByteArray) (A H X : Nat) (ra : Option Addr) (rn rc : Nat) (rs : List ByteArray) (ps : List Pf) (pa : Option Addr) (pn pc : Nat) (w : World) (hc : Caps w lo hi A H X ra rn rc rs) (hP : PJ w pa pn ps) (hpr : ps.length = rs.length) (hr8 : rs.length ≤ 8) (hlo : lo.size ≤ 1048576) (hhi : hi.size ≤ 1048576) (hrs : rs.length + puttexts.sum rs ≤ 1048576) (hrc : rn ≤ rc) (hK : sha.KW w) :
    Calls Tryz.prog 24 #[.slice pa pn pc, .func (.func 25) #[] #[.pointer (some ⟨X, 0, none⟩), .pointer (some ⟨A, 0, none⟩), .pointer (some ⟨H, 0, none⟩)]] w (EPost w ps.length (partB rs.length lo hi rs ps)) := by
  obtain rfl : ps.length = pn := hP.1
  obtain ⟨i0, hif, hz0, hz1, hz2⟩ := info_parts infoPs
  have hp8 : ps.length ≤ 8 := by omega
  have HPR := Hid.mk' hpr
  clear hpr
  have HH := Hid.mk' hP
  have HC := Hid.mk' (fun (k : Nat) (hk : k < ps.length) (ia : Option Addr) (ic : Nat) (wx : World) (hx : Below w.heap.size w wx) (hJ : SlJ wx ia ps[k].2.2.length ps[k].2.2) (hw1 : (Lit.int .i64 ps[k].1).wf = true) (hw2 : (Lit.int .i64 ps[k].2.1).wf = true) => i_checkOne lo hi A H X ra rn rc rs ps k ia ic wx (hc.below hx) (by have := HPR.out; omega) hk hJ hw1 hw2 hlo hhi hrs hrc (hK.below hx))
  clear hP hc
  generalize partB rs.length lo hi rs ps = P at *
  go_enter Tryz.func24, Tryz.ntmps24
  go_wp2_with (at_make; refine wpList_make_own _ rfl _ _ 59 rfl 0 30 i0 (.slice none 0 0) 1 Tryz.underlying59 hif hz0 hz1 _ _ _ ps.length rfl rfl rfl ?b2 ?b3 ?b4 ?_)
  case b2 => rw [hz2]; omega
  case b3 => unfold maxLen; omega
  case b4 => exact Nat.zero_le _
  intro w1 hown hgrow
  have hb1 : Below w.heap.size w w1 := (Below.refl _ _).grown hgrow (Nat.le_refl _) (fun k e => by cases e)
  have hOw0 := ownG_rowP (R := tableR) (ty := 30) hown
  clear hown hgrow hif hz0 hz1 hz2
  go_wp2_with fail
  go_loopw [16, 6] (fun i s wr => ∃ (g cap : Nat) (L : List (List Pr)) (q : Parts), L.length ≤ ps.length ∧ i = .int .i64 (L.length : Int) ∧ s = .slice (some ⟨g, 0, none⟩) L.length cap ∧ OwnG 30 tableR wr (.slice (some ⟨g, 0, none⟩) L.length cap) L q ∧ (∀ b ∈ g :: blocksOf q, w.heap.size ≤ b) ∧ (∀ p ∈ q, ∃ g n c, p.1 = [.slice (some ⟨g, 0, none⟩) n c]) ∧ (∀ j (hj : j < L.length), P j = some L[j]) ∧ Below w.heap.size w wr) (fun i _ _ => ps.length - (intOf i).toNat)
  case atStart => exact ⟨_, _, [], [], Nat.zero_le _, rfl, rfl, hOw0, fun b hb => by simp [blocksOf] at hb; omega, fun p hp => absurd hp (by simp), fun j hj => absurd hj (by simp), hb1⟩
  case round =>
    obtain ⟨g, cap, L, q, hk, rfl, rfl, hO, hq, hsh, hall, hBw⟩ := hrel
    have HSH := Hid.mk' hsh
    clear hsh
    clear hOw0 hb1
    by_cases hlt : L.length < ps.length
    · have hki : (L.length : Int) < (ps.length : Int) := by omega
      obtain ⟨b, off, e, hcl⟩ := HH.out.2.2 (by omega)
      subst e
      obtain ⟨ia, ic, c0, c1, c2, hJ, hw1, hw2⟩ := hcl L.length hlt
      have d0 := (hBw.cell (p := ⟨b, off + L.length * 3, none⟩) (World.block_lt_of_cell? w _ c0)).trans c0
      have d1 := (hBw.cell (p := ⟨b, off + L.length * 3 + 1, none⟩) (World.block_lt_of_cell? w _ c1)).trans c1
      have d2 := (hBw.cell (p := ⟨b, off + L.length * 3 + 2, none⟩) (World.block_lt_of_cell? w _ c2)).trans c2
      obtain ⟨U, hU⟩ : ∃ U, wr.alloc (.cells #[.int .i64 ps[L.length].1, .int .i64 ps[L.length].2.1, .slice ia ps[L.length].2.2.length ic] 64) = U := ⟨_, rfl⟩
      have hbu : Below wr.heap.size wr U := by rw [← hU]; exact below_make
      have hXU : BoxIn wr.heap.size 64 [] [.int .i64 ps[L.length].1, .int .i64 ps[L.length].2.1, .slice ia ps[L.length].2.2.length ic] [] U := by rw [← hU]; exact boxIn_new wr _ _
      have hBu := hBw.trans (hbu.mono hBw.size)
      have x0 := hXU.cell 0 _ rfl
      have x1 := hXU.cell 1 _ rfl
      have x2 := hXU.cell 2 _ rfl
      simp only [List.length_nil, Nat.zero_add] at x0 x1 x2
      rw [← hU] at x0 x1 x2
      have HCK := Hid.mk' (HC.out L.length hlt ia ic U hBu (hJ.below hBu) hw1 hw2)
      have HO := Hid.mk' (hO.below hbu)
      have HU := Hid.mk' hU
      have HALL := Hid.mk' hall
      have HQ := Hid.mk' hq
      clear hcl c0 c1 c2 hJ hw1 hw2 hU hXU hO hall hq
      generalize ps[L.length].2.2.length = il at *
      generalize ps[L.length].1 = fn at *
      generalize ps[L.length].2.1 = ff at *
      go_wp2_with fail
      rw [HU.out]
      refine HCK.out.mono ?_
      rintro e w2 ⟨hb2, g2, n2, c2, l, rfl, hO2, hl2⟩
      have hB2 := hBu.trans (hb2.mono hBu.size)
      cases hpk : P L.length with
      | none =>
        obtain ⟨V, hV⟩ : ∃ V, w2.alloc (.cells #[] 30) = V := ⟨_, rfl⟩
        have hbv : Below w2.heap.size w2 V := by rw [← hV]; exact below_make
        have hOV : OwnG 30 tableR V (.slice (some ⟨w2.heap.size, 0, none⟩) 0 0) [] [] := by rw [← hV]; exact ownG_madeP _ _ _
        have HOV := Hid.mk' hOV
        have HV := Hid.mk' hV
        have HPK := Hid.mk' hpk
        have HB3 := Hid.mk' (hB2.trans (hbv.mono hB2.size))
        simp only [Option.isSome_none] at *
        clear x0 x1 x2 hV hOV hpk HO HU d0 d1 d2 hl2
        go_wp2_with fail
        rw [HV.out]
        go_ret2
        exact ⟨HB3.out, _, _, [], [], false, rfl, HOV.out, fun p hp => absurd hp (by simp), .inr ⟨rfl, rfl, L.length, hlt, HPK.out⟩⟩
      | some l0 =>
        obtain rfl : l = l0 := hl2 l0 hpk
        obtain ⟨V, hV⟩ : ∃ V, w2.alloc (.cells #[.slice (some ⟨g2, 0, none⟩) n2 c2] 30) = V := ⟨_, rfl⟩
        have hbv : Below w2.heap.size w2 V := by rw [← hV]; exact below_make
        have hXV : BoxIn w2.heap.size 30 [] [.slice (some ⟨g2, 0, none⟩) n2 c2] [] V := by rw [← hV]; exact boxIn_new w2 _ _
        have hBV := hB2.trans (hbv.mono hB2.size)
        have hOk := HO.out.below hb2
        have hlts := HO.out.lts
        have hg2 := hO2.lt
        obtain ⟨g', cap', w3, hrun, hO3, hgr, hat⟩ := cos.OwnG.appRun (P := Tryz.prog) (z := .slice none 0 0) Tryz.underlying59 infoPs rfl (by decide) (hOk.below hbv) (tableR.ownBelow (table_ownP hO2) hbv) (fun b hb hc => by
          have h1 : b = g2 := by simpa using hb
          have h2 := hlts b (by simpa [Value.ownBlock] using hc)
          omega) hXV (by unfold maxLen; omega) (by omega) 59
        have hs1 := hBV.size
        have hs2 := hBu.size
        have hB3 := hBV.grown hgr hBV.size (fun b e => by have e1 : g = b := by simpa [Value.ownBlock] using e
                                                          have := HQ.out g (by simp); omega)
        have HQ3 : Hid (∀ b ∈ g' :: blocksOf (q ++ [([.slice (some ⟨g2, 0, none⟩) n2 c2], [g2])]), w.heap.size ≤ b) := fun b hb => by
          rw [blocksOf_append] at hb
          rcases List.mem_cons.1 hb with e | e
          · rcases hat with e2 | e2
            · have e1 : g = g' := by simpa [Value.ownBlock] using e2
              have := HQ.out g (by simp); omega
            · omega
          · rcases List.mem_append.1 e with e | e
            · exact HQ.out b (List.mem_cons_of_mem _ e)
            · have e1 : b = g2 := by simpa [blocksOf] using e
              omega
        have HSH3 : Hid (∀ p ∈ q ++ [([Value.slice (some ⟨g2, 0, none⟩) n2 c2], [g2])], ∃ g n c, p.1 = [.slice (some ⟨g, 0, none⟩) n c]) := fun p hp => by
          rcases List.mem_append.1 hp with e | e
          · exact HSH.out p e
          · rw [List.mem_singleton.1 e]; exact ⟨_, _, _, rfl⟩
        have HL1 : Hid ((L ++ [l]).length = L.length + 1) := by show _ = _; simp
        have HALL3 : Hid (∀ j (hj : j < (L ++ [l]).length), P j = some (L ++ [l])[j]) := fun j hj => by
          by_cases e : j < L.length
          · rw [List.getElem_append_left e]; exact HALL.out j e
          · have hj2 : j = L.length := by rw [HL1.out] at hj; omega
            subst hj2
            rw [List.getElem_append_right (Nat.le_refl _), hpk]
            simp
        have HV := Hid.mk' hV
        have HO3 := Hid.mk' hO3
        have hii : (L.length : Int) + 1 = ((L.length + 1 : Nat) : Int) := by omega
        have HB3 := Hid.mk' hB3
        simp only [Option.isSome_some] at *
        clear x0 x1 x2 hV hXV hOk hO3 hlts hgr hat hl2 HO HU d0 d1 d2 hpk hO2 hB3 hs1 hs2 HALL hii
        go_wp2_with (at_builtin; rw [HV.out]; refine cos.wpList_append_run rfl _ _ 59 rfl (by kernel_rfl) (by kernel_rfl) hrun ?_)
        go_wp2_with fail
        go_roundw
        case rel => exact ⟨g', cap', L ++ [l], _, by rw [HL1.out]; omega, by rw [HL1.out]; go_num, by rw [HL1.out], by rw [HL1.out]; exact HO3.out, HQ3.out, HSH3.out, HALL3.out, HB3.out⟩
        case measure => simp [intOf]; omega
    · have hki : ¬ (L.length : Int) < (ps.length : Int) := by omega
      have HO := Hid.mk' hO
      have HALL := Hid.mk' hall
      have hle : L.length = ps.length := by omega
      have HLE := Hid.mk' hle
      clear hO hall hq hle
      go_wp2_with fail
      go_ret2
      exact ⟨hBw, _, _, L, q, true, rfl, HO.out, HSH.out, .inl ⟨rfl, HLE.out, HALL.out⟩⟩
theorem part_at {w : World} {g n cap : Nat} {L : List (List Pr)} {q : Parts} (h : OwnG 30 tableR w (.slice (some ⟨g, 0, none⟩) n cap) L q) (hs : ∀ p ∈ q, ∃ g n c, p.1 = [.slice (some ⟨g, 0, none⟩) n c]) (i : Nat) (hi : i < L.length) : ∃ g2 n2 c2, w.cell? ⟨g, i, none⟩ = some (.slice (some ⟨g2, 0, none⟩) n2 c2) ∧ OwnP w 0 g2 n2 c2 L[i] := by
  have hl := h.len
  obtain ⟨g2, n2, c2, e⟩ := hs (q[i]'(by omega)) (List.getElem_mem _)
  have hc := h.cells i hi
  have he := h.each i hi
  rw [e] at hc he
  have c0 := hc 0 _ rfl
  rw [show i * tableR.size + 0 = i by show i * 1 + 0 = i; omega] at c0
  exact ⟨g2, n2, c2, c0, table_P he⟩
set_option maxRecDepth 100000 in
set_option maxHeartbeats 8000000 in
theorem impl_checkBundle : ImplCheck := by
  intro super lo hi ra rn rc pa pn pc x w hno hsu hlo hhi hp hR hrs hP hps hrc hpc hK
  obtain ⟨no, pv, rs, ps⟩ := x
  simp only [] at *
  obtain rfl : rs.length = rn := hR.1
  obtain rfl : ps.length = pn := hP.1
  have hplm := hP.2.1
  unfold maxLen at hplm
  obtain ⟨W, hW⟩ : ∃ W, (((w.alloc (.cells #[.string lo] 9)).alloc (.cells #[.string hi] 9)).alloc (.cells #[.int .i64 no, .string pv, .slice ra rs.length rc, .slice pa ps.length pc] 27)).alloc (.cells #[] 34) = W := ⟨_, rfl⟩
  obtain ⟨W1, hW1⟩ : ∃ W, w.alloc (.cells #[.string lo] 9) = W := ⟨_, rfl⟩
  obtain ⟨W2, hW2⟩ : ∃ W, W1.alloc (.cells #[.string hi] 9) = W := ⟨_, rfl⟩
  obtain ⟨W3, hW3⟩ : ∃ W, W2.alloc (.cells #[.int .i64 no, .string pv, .slice ra rs.length rc, .slice pa ps.length pc] 27) = W := ⟨_, rfl⟩
  have hWW : W3.alloc (.cells #[] 34) = W := by rw [← hW3, ← hW2, ← hW1]; exact hW
  have hs1 : W1.heap.size = w.heap.size + 1 := by rw [← hW1]; simp
  have hs2 : W2.heap.size = w.heap.size + 2 := by rw [← hW2]; simp [hs1]
  have hs3 : W3.heap.size = w.heap.size + 3 := by rw [← hW3]; simp [hs2]
  have q1 : Below w.heap.size w W1 := by rw [← hW1]; exact below_make
  have q2 : Below W1.heap.size W1 W2 := by rw [← hW2]; exact below_make
  have q3 : Below W2.heap.size W2 W3 := by rw [← hW3]; exact below_make
  have hA : BoxIn w.heap.size 9 [] [.string lo] [] W1 := by rw [← hW1]; exact boxIn_new w _ _
  have hH : BoxIn W1.heap.size 9 [] [.string hi] [] W2 := by rw [← hW2]; exact boxIn_new W1 _ _
  have hX : BoxIn W2.heap.size 27 [] [.int .i64 no, .string pv, .slice ra rs.length rc, .slice pa ps.length pc] [] W3 := by rw [← hW3]; exact boxIn_new W2 _ _
  rw [hs1] at hH
  rw [hs2] at hX
  have hb3 : Below w.heap.size w W3 := q1.trans ((q2.trans (q3.mono q2.size)).mono q1.size)
  have hb4 : Below W3.heap.size W3 W := by rw [← hWW]; exact below_make
  have hB := hb3.trans (hb4.mono hb3.size)
  have a0 := ((hA.below q2).below q3).cell 0 _ rfl
  have b0 := (hH.below q3).cell 0 _ rfl
  simp only [List.length_nil, Nat.zero_add] at a0 b0
  obtain ⟨y0, y1, y2, y3⟩ := box4 hX
  have keep : ∀ {b o v}, W3.cell? ⟨b, o, none⟩ = some v → W.cell? ⟨b, o, none⟩ = some v := fun {b o v} hv => (hb4.cell (p := ⟨b, o, none⟩) (World.block_lt_of_cell? _ _ hv)).trans hv
  have z3 := keep y3
  have HCP := Hid.mk' (show Caps W lo hi w.heap.size (w.heap.size + 1) (w.heap.size + 2) ra rs.length rc rs from ⟨keep a0, keep b0, keep y2, hR.below hB⟩)
  replace y0 := keep y0
  replace y1 := keep y1
  replace y2 := keep y2
  replace y3 := keep y3
  have hON : OwnP W w.heap.size (w.heap.size + 3) 0 0 [] := by
    rw [← hWW, ← hs3]
    exact ownP_made W3 w.heap.size (by omega)
  have HIS := Hid.mk' (i_isOf super ra rs.length rc pa ps.length pc (no, pv, rs, ps) W hno hp (hR.below hB) hrs rfl (by omega) (hK.below hB))
  have HCE := Hid.mk' (fun wx (hx : Below W.heap.size W wx) (hpr : ps.length = rs.length) (hr8 : rs.length ≤ 8) => i_checkEach lo hi w.heap.size (w.heap.size + 1) (w.heap.size + 2) ra rs.length rc rs ps pa ps.length pc wx (HCP.out.below hx) ((hP.below hB).below hx) hpr hr8 hlo hhi hrs hrc ((hK.below hB).below hx))
  have HIB : Hid (isB super (no, pv, rs, ps) = (decide (1 ≤ rs.length ∧ rs.length ≤ 8) && decide (ps.length = rs.length) && decide (superOf no pv rs = super))) := rfl
  have HR : Hid (checkB super lo hi (no, pv, rs, ps) = if superOf no pv rs = super ∧ (1 ≤ rs.length ∧ rs.length ≤ 8) ∧ ps.length = rs.length then sumB rs.length lo hi rs ps rs.length else none) := rfl
  have HPL := Hid.mk' (fun k l (e : partB rs.length lo hi rs ps k = some l) => part_len (n := rs.length) (lo := lo) (hi := hi) (roots := rs) hps e)
  have HW := Hid.mk' hW
  generalize checkB super lo hi (no, pv, rs, ps) = CB at *
  generalize isB super (no, pv, rs, ps) = ib at *
  rw [← hW] at y0 y1 y2 y3
  clear hW hWW hW1 hW2 hW3 hb3 hb4 hs1 hs2 hs3 a0 b0 keep hR hP hps hK q1 q2 q3 hA hH hX
  cases ib
  · have HF : Hid (CB = none) := by
      show _ = _
      rw [HR.out, if_neg]
      rintro ⟨e1, e2, e3⟩
      have := HIB.out
      rw [decide_eq_true e1, decide_eq_true e2, decide_eq_true e3] at this
      cases this
    clear HR HIB HCE HPL
    go_enter Tryz.func7, Tryz.ntmps7
    go_wp2_with fail
    rw [HW.out]
    refine HIS.out.mono ?_
    rintro e w1 ⟨rfl, hb1⟩
    have hB1 := hB.trans (hb1.mono hB.size)
    have HO1 := Hid.mk' (hON.below hb1)
    go_wp2_with fail
    go_ret2
    rw [HF.out]
    exact ⟨hB1, _, _, _, rfl, HO1.out⟩
  have hcond : superOf no pv rs = super ∧ (1 ≤ rs.length ∧ rs.length ≤ 8) ∧ ps.length = rs.length := by
    have := HIB.out.symm
    simp only [Bool.and_eq_true, decide_eq_true_eq] at this
    exact ⟨this.2, this.1.1, this.1.2⟩
  have HCB : Hid (CB = sumB rs.length lo hi rs ps rs.length) := by show _ = _; rw [HR.out, if_pos hcond]
  have HCX := Hid.mk' (fun wx (hx : Below W.heap.size W wx) => HCE.out wx hx hcond.2.2 hcond.2.1.2)
  have HPR := Hid.mk' hcond.2.2
  have hr8 := hcond.2.1.2
  clear HR HIB HCE hcond
  go_enter Tryz.func7, Tryz.ntmps7
  go_wp2_with fail
  rw [HW.out]
  refine HIS.out.mono ?_
  rintro e w1 ⟨rfl, hb1⟩
  have hB1 := hB.trans (hb1.mono hB.size)
  have HO1 := Hid.mk' (hON.below hb1)
  have HEC := Hid.mk' (HCX.out w1 hb1)
  have u3 := (hb1.cell (p := ⟨w.heap.size + 2, 3, none⟩) (World.block_lt_of_cell? _ _ z3)).trans z3
  clear y0 y1 y2 y3 z3 HIS HCX hON HW HCP
  go_wp2_with fail
  refine HEC.out.mono ?_
  rintro e w2 ⟨hb2, g2, c2, L, q, ok, rfl, hO2, hsh, hcs⟩
  have hB2 := hB1.trans (hb2.mono hB1.size)
  have HO2 := Hid.mk' hO2
  have HSH := Hid.mk' hsh
  have HLL : Hid (∀ l ∈ L, l.length ≤ 1048576) := fun l hl => by
    rcases hcs with ⟨_, hL, hall⟩ | ⟨_, rfl, _⟩
    · obtain ⟨j, hj, rfl⟩ := List.getElem_of_mem hl
      exact HPL.out j _ (hall j hj)
    · cases hl
  have HFB := Hid.mk' (foldB_len HLL.out)
  have HCR : Hid (CB = if ok = true then some (foldB L) else none) := by
    show _ = _
    rw [HCB.out]
    rcases hcs with ⟨rfl, hL, hall⟩ | ⟨rfl, rfl, k, hk, hpk⟩
    · rw [if_pos rfl]
      have hp := HPR.out
      have := sum_parts (n := rs.length) (lo := lo) (hi := hi) (roots := rs) (proofs := ps) hall L.length (Nat.le_refl _)
      rw [List.take_length, hL, hp] at this
      exact this
    · rw [if_neg (by simp)]
      exact sumB_none hpk _ (by have := HPR.out; omega)
  have hL8 : L.length ≤ 8 := by
    rcases hcs with ⟨_, hL, _⟩ | ⟨_, rfl, _⟩
    · have := HPR.out; omega
    · simp
  have HNIL : Hid (ok = false → L = []) := fun e => by
    rcases hcs with ⟨h, _⟩ | ⟨_, h, _⟩
    · rw [e] at h; cases h
    · exact h
  have HO1' := Hid.mk' (HO1.out.below hb2)
  clear hO2 hsh hcs HCB HPL HEC u3 HO1 hb2
  go_wp2_with fail
  go_loopw [30, 10] (fun i s wr => ∃ (k g n c : Nat), k ≤ L.length ∧ i = .int .i64 (k : Int) ∧ s = .slice (some ⟨g, 0, none⟩) n c ∧ OwnP wr w.heap.size g n c (foldB (L.take k)) ∧ Below w2.heap.size w2 wr) (fun i _ _ => L.length - (intOf i).toNat)
  case atStart => exact ⟨0, _, _, _, Nat.zero_le _, rfl, rfl, HO1'.out, Below.refl _ _⟩
  case round =>
    obtain ⟨k, g, n, c, hk, rfl, rfl, hO, hBw⟩ := hrel
    by_cases hlt : k < L.length
    · have hki : (k : Int) < (L.length : Int) := by omega
      obtain ⟨g5, n5, c5, d0, hO5⟩ := part_at (HO2.out.below hBw) HSH.out k hlt
      have hfl := HFB.out k hk
      have hll := HLL.out L[k] (List.getElem_mem hlt)
      have hn1 := hO.1
      have hn2 := hO5.1
      have HUN := Hid.mk' (impl_unionOf g 0 n c (foldB (L.take k)) g5 0 n5 c5 L[k] wr hO.sl hO5.sl (OwnP.cases hO).1 (OwnP.cases hO5).1 (by omega))
      rw [← foldB_take L k hlt] at HUN
      clear hO hO5 hfl hll hn1 hn2
      go_wp2_with fail
      refine HUN.out.mono ?_
      rintro e w6 ⟨g6, n6, c6, rfl, hO6, hb6⟩
      have hB6 := hBw.trans (hb6.mono hBw.size)
      have HO6 := Hid.mk' (hO6.mono (base' := w.heap.size) (Nat.le_trans hB2.size hBw.size))
      clear hO6
      go_wp2_with fail
      go_roundw
      case rel => exact ⟨k + 1, g6, n6, c6, by omega, by go_num, rfl, HO6.out, hB6⟩
      case measure => simp [intOf]; omega
    · have hki : ¬ (k : Int) < (L.length : Int) := by omega
      rw [List.take_of_length_le (by omega)] at hO
      have hBf := hB2.trans (hBw.mono hB2.size)
      have HO := Hid.mk' hO
      clear hO
      cases ok
      · have HF : Hid (CB = none) := by show _ = _; rw [HCR.out]; rfl
        have HZ : Hid (foldB L = []) := by show _ = _; rw [HNIL.out rfl]; rfl
        go_wp2_with fail
        go_ret2
        rw [HF.out]
        exact ⟨hBf, g, n, c, rfl, by have := HO.out; rw [HZ.out] at this; exact this⟩
      · have HF : Hid (CB = some (foldB L)) := by show _ = _; rw [HCR.out]; rfl
        go_wp2_with fail
        go_ret2
        rw [HF.out]
        exact ⟨hBf, g, n, c, rfl, HO.out⟩
end Go.Proofs.YteammdkipnfmnaaGreatDoor.bun
