/- Drawn tables with their seal. -/
import Derived.Test.YteammdkipnfmnaaGreatDoorSham
import Derived.Test.YteammdkipnfmnaaGreatDoorShap
import Derived.Test.YteammdkipnfmnaaGreatDoorShah
import Derived.Test.YteammdkipnfmnaaGreatDoorShae
import Derived.Test.YteammdkipnfmnaaGreatDoorShal
import Derived.Test.YteammdkipnfmnaaGreatDoorShar
namespace Go.Proofs.YteammdkipnfmnaaGreatDoor.bun
open Go Go.RowKit Go.Proofs.YteammdkipnfmnaaGreatDoor.base Go.Proofs.YteammdkipnfmnaaGreatDoor.pairs Go.Proofs.YteammdkipnfmnaaGreatDoor.tree Go.Proofs.YteammdkipnfmnaaGreatDoor.lay Go.Proofs.YteammdkipnfmnaaGreatDoor.seals Go.Proofs.YteammdkipnfmnaaGreatDoor.tabs Go.Proofs.YteammdkipnfmnaaGreatDoor.draw
set_option linter.unusedVariables false
set_option linter.unusedSimpArgs false

def GotTab (w0 w : World) (gc : Nat) (a : Option Addr) (len cap : Nat) (code : List UInt8) (e : Ending) (w' : World) : Prop :=
  ∃ (x : Seal) (ra : Option Addr) (rn rc : Nat) (FR : List Nat) (ta : Option Addr) (tn tc : Nat) (FT : List Nat) (ts : List (List Pr)), e = .returned (.tuple #[.agg #[.int .i64 x.1, .string x.2.1, .string x.2.2.1, .slice ra rn rc], .slice ta tn tc]) ∧ textsR.own w' [.slice ra rn rc] x.2.2.2 FR ∧ (∀ k ∈ FR, w.heap.size ≤ k) ∧ tablesN.own w' [.slice ta tn tc] ts FT ∧ (∀ k ∈ FT, w.heap.size ≤ k) ∧ (1 ≤ x.1 ∧ x.1 ≤ 3) ∧ x.2.1.size = 32 ∧ x.2.2.1.size = 32 ∧ (∀ r ∈ x.2.2.2, r.size = 32) ∧ x.2.2.2.length ≤ 3 ∧ (∀ t ∈ ts, t.length ≤ 8 ∧ ∀ p ∈ t, tiny p) ∧ Cur w0 w' gc a len cap code ∧ w.grownBy w' (some gc)
theorem infoTbB : (Tryz.prog.info? 90).map (fun i => (i.zero, i.size, i.bytes)) = some (some (.agg #[.slice none 0 0]), 1, 24) := by kernel_rfl
theorem infoStrD : (Tryz.prog.info? 9).map (fun i => (i.zero, i.size, i.bytes)) = some (some (.string ⟨#[]⟩), 1, 16) := by kernel_rfl
theorem infoPrD : (Tryz.prog.info? 34).map (fun i => (i.zero, i.size, i.bytes)) = some (some (.agg #[.string ⟨#[]⟩, .string ⟨#[]⟩]), 2, 32) := by kernel_rfl
theorem ownG_nilD {α : Type} (ty : TypeId) (R : Rd α) (w : World) : OwnG ty R w (.slice none 0 0) [] [] :=
  ⟨rfl, World.ownsRow_nil _ _ _ _, fun i h => absurd h (by simp), by simp [blocksOf, Value.ownBlock]⟩
theorem ownG_madeD {α : Type} (ty : TypeId) (R : Rd α) (w : World) : OwnG ty R (w.alloc (.cells #[] ty)) (.slice (some ⟨w.heap.size, 0, none⟩) 0 0) [] [] :=
  ⟨rfl, World.ownsRow_made w #[] 0 (Nat.zero_le _) (Nat.zero_le _) (by simp), fun i h => absurd h (by simp), by simp [blocksOf, Value.ownBlock]⟩
theorem box4d {X : Nat} {T : TypeId} {w : World} {v0 v1 v2 v3 : Value} (h : BoxIn X T [] [v0, v1, v2, v3] [] w) : w.cell? ⟨X, 0, none⟩ = some v0 ∧ w.cell? ⟨X, 1, none⟩ = some v1 ∧ w.cell? ⟨X, 2, none⟩ = some v2 ∧ w.cell? ⟨X, 3, none⟩ = some v3 := by
  have a := fun j u hj => h.cell j u hj
  simp only [List.length_nil, Nat.zero_add] at a
  exact ⟨a 0 _ rfl, a 1 _ rfl, a 2 _ rfl, a 3 _ rfl⟩
theorem pair_app {V : World} {g n c : Nat} {l : List Pr} {F : List Nat} {p : Pr} (h : tableR.own V [.slice (some ⟨g, 0, none⟩) n c] l F) (hp : small p) {X : Nat} {T : TypeId} (hX : BoxIn X T [] [.string p.1, .string p.2] [] V) (hl : l.length ≤ 1000) (tyo : TypeId) :
    ∃ g' c' w', (Builtin.append_ #[30, 30] tyo #[.slice (some ⟨g, 0, none⟩) n c, .slice (some ⟨X, 0, none⟩) 1 1]).run Tryz.prog V = .ok (.slice (some ⟨g', 0, none⟩) (l.length + 1) c') w' ∧ tableR.own w' [.slice (some ⟨g', 0, none⟩) (l.length + 1) c'] (l ++ [p]) [g'] ∧ V.grownBy w' (some g) ∧ (g = g' ∨ g' = V.heap.size) := by
  obtain ⟨v, q, e, rfl, hO⟩ := h
  cases e
  obtain ⟨g', c', w', hr, h2, h3, h4⟩ := cos.OwnG.appRun (P := Tryz.prog) (z := .agg #[.string ⟨#[]⟩, .string ⟨#[]⟩]) Tryz.underlying30 infoPrD rfl (by decide) hO (flat_pr.own.2 ⟨rfl, hp, rfl⟩ : prR.own V [.string p.1, .string p.2] p []) (fun b hb => absurd hb List.not_mem_nil) hX (by unfold maxLen; omega) (by omega) tyo
  refine ⟨g', c', w', hr, ⟨_, _, rfl, by rw [(flat_pr.parts h2).2.2.1]; rfl, h2⟩, h3, ?_⟩
  rcases h4 with e | e
  · left; simpa [Value.ownBlock] using e
  · exact .inr e
set_option maxRecDepth 100000 in
set_option maxHeartbeats 16000000 in
theorem d_tables (w0 w : World) (gc : Nat) (a : Option Addr) (len cap : Nat) (code : List UInt8) (h : Cur w0 w gc a len cap code) :
    Calls Tryz.prog 18 #[.pointer (some ⟨gc, 0, none⟩)] w fun e w' => GotTab w0 w gc a len cap code e w' := by
  have hgl := h.lt
  obtain ⟨W, hW⟩ : ∃ W, w.alloc (.cells #[.int .i64 0, .string ⟨#[]⟩, .string ⟨#[]⟩, .slice none 0 0] 49) = W := ⟨_, rfl⟩
  have hB : Below w.heap.size w W := by rw [← hW]; exact below_make
  have hR : BoxIn w.heap.size 49 [] [.int .i64 0, .string ⟨#[]⟩, .string ⟨#[]⟩, .slice none 0 0] [] W := by rw [← hW]; exact boxIn_new w _ _
  have hc0 := h.below hB
  have hg0 : w.grownBy W (some gc) := by rw [← hW]; exact grown_alloc0 w _ _
  have HW := Hid.mk' hW
  clear hW h
  go_enter Tryz.func18, Tryz.ntmps18
  go_wp2_with fail
  rw [HW.out]
  refine (below_ w0 W gc a len cap code 3 hc0 (by omega) (by omega)).mono ?_
  rintro e w1 ⟨x1, hx1, rfl, hc1, hg1⟩
  have hR1 := hR.grown hg1 (fun e => by have := Option.some.inj e; omega)
  have hG1 := grownBy_trans hg0 hg1
  clear HW hc0 hg0 hg1 hR hB
  go_wp2_with fail
  refine (d_pairsG w0 w1 gc a len cap code hc1).mono ?_
  rintro e w2 ⟨ga, na, ca, al, hna, hgd, rfl, hO2, hc2, hg2⟩
  have hR2 := hR1.grown hg2 (fun e => by have := Option.some.inj e; omega)
  have hG2 := grownBy_trans hG1 hg2
  have hO2' := hO2.mono (base' := w.heap.size) hG1.size
  have hal := good1_tiny hgd.1
  have hR2l := hR2.lt
  have hln := hO2.1
  clear hc1 hg2 hR1 hG1 hO2 hgd
  go_wp2_with fail
  refine (below_ w0 w2 gc a len cap code 3 hc2 (by omega) (by omega)).mono ?_
  rintro e w3 ⟨x2, hx2, rfl, hc3, hg3⟩
  have hR3 := hR2.grown hg3 (fun e => by have := Option.some.inj e; omega)
  have hG3 := grownBy_trans hG2 hg3
  have hO3 := hO2'.grown hg3 (fun e => by have h1 := hO2'.lt.1; have := Option.some.inj e; omega)
  clear hc2 hg3 hR2 hG2 hO2'
  go_wp2_with fail
  refine (some_ w0 w3 gc a len cap code hc3).mono ?_
  rintro e w4 ⟨g4, m4, c4, bs, hm4, rfl, hO4, hc4, hg4⟩
  have hR4 := hR3.grown hg4 (fun e => by have := Option.some.inj e; omega)
  have hG4 := grownBy_trans hG3 hg4
  have hP4 := hO3.grown hg4 (fun e => by have h1 := hO3.lt.1; have := Option.some.inj e; omega)
  have HDG := Hid.mk' (sha.spec_digest g4 0 m4 c4 bs w4 hO4.sl (by omega))
  have hd32 := dg_size bs
  unfold dg at hd32
  generalize (⟨(sha.digest bs).toArray⟩ : ByteArray) = pv at *
  clear hc3 hg4 hR3 hG3 hO3 hO4
  go_wp2_with fail
  refine HDG.out.mono ?_
  rintro e w5 ⟨rfl, hb5⟩
  obtain ⟨w6, hw6⟩ : ∃ V, w5.alloc (.cells #[.int .i64 (1 + (x2 : Int)), .string pv, .string ⟨#[]⟩, .slice none 0 0] 49) = V := ⟨_, rfl⟩
  have hb6 : Below w5.heap.size w5 w6 := by rw [← hw6]; exact below_make
  have hS6 : BoxIn w5.heap.size 49 [] [.int .i64 (1 + (x2 : Int)), .string pv, .string ⟨#[]⟩, .slice none 0 0] [] w6 := by rw [← hw6]; exact boxIn_new w5 _ _
  have hs6 : w6.heap.size = w5.heap.size + 1 := by rw [← hw6]; simp
  obtain ⟨w7, hw7⟩ : ∃ V, w6.alloc (.cells #[] 90) = V := ⟨_, rfl⟩
  have hb7 : Below w6.heap.size w6 w7 := by rw [← hw7]; exact below_make
  have hT7 : OwnG 90 tableN w7 (.slice (some ⟨w5.heap.size + 1, 0, none⟩) 0 0) [] [] := by rw [← hs6, ← hw7]; exact ownG_madeD _ _ _
  have hs5 := hb5.size
  have hs4 := hG4.size
  have hR5 := hR4.below hb5
  have hR5l := hR5.lt
  have HT7 : Hid (TSt w0 w w7 gc a len cap code w5.heap.size w.heap.size (1 + (x2 : Int)) pv ga na ca al (.slice none 0 0) [] [] (w5.heap.size + 1) 0 0 [] []) :=
    ⟨((hc4.below hb5).below hb6).below hb7, grown_below (grown_below (grown_below hG4 hb5) hb6) hb7, hgl, hS6.below hb7, (hR5.below hb6).below hb7, ((hP4.below hb5).below hb6).below hb7, ownG_nilD _ _ _, hT7, by omega, Nat.le_refl _, by omega, fun k hk => absurd hk (by simp [Value.ownBlock]), fun k hk => by simp [blocksOf] at hk; omega⟩
  have HWW : Hid ((w5.alloc (.cells #[.int .i64 (1 + (x2 : Int)), .string pv, .string ⟨#[]⟩, .slice none 0 0] 49)).alloc (.cells #[] 90) = w7) := by show _ = _; rw [hw6, hw7]
  have hno : 1 ≤ 1 + (x2 : Int) ∧ 1 + (x2 : Int) ≤ 3 := by omega
  have hnow : (Lit.int .i64 (1 + (x2 : Int))).wf = true := WalkArith.wf_i64 (by omega)
  clear hb5 hb6 hb7 hw6 hw7 hS6 hs6 hT7 hc4 hG4 hR4 hP4 hs4 hR5 HDG
  go_wp2_with fail
  rw [HWW.out]
  clear HWW
  generalize hS : w5.heap.size = S at *
  generalize (1 + (x2 : Int)) = no at *
  have hNL : na ≤ 8 := hna
  go_loopw [8, 7] (fun i s wr => ∃ (vR : Value) (rs : List ByteArray) (qR : Parts) (gT cT : Nat) (ts : List (List Pr)) (qT : Parts), (ts.length : Int) ≤ 1 + (x1 : Int) ∧ i = .int .i64 (ts.length : Int) ∧ s = .slice (some ⟨gT, 0, none⟩) ts.length cT ∧ TSt w0 w wr gc a len cap code S w.heap.size no pv ga na ca al vR rs qR gT ts.length cT ts qT ∧ rs.length ≤ ts.length ∧ (∀ r ∈ rs, r.size = 32) ∧ (∀ t ∈ ts, t.length ≤ 8 ∧ ∀ p ∈ t, tiny p)) (fun i _ _ => 4 - (intOf i).toNat)
  case atStart => exact ⟨_, [], [], _, _, [], [], by simp; omega, rfl, rfl, HT7.out, Nat.le_refl _, fun r hr => absurd hr List.not_mem_nil, fun t ht => absurd ht List.not_mem_nil⟩
  case round =>
    clear HT7
    obtain ⟨vR, rs, qR, gT, cT, ts, qT, hk, rfl, rfl, hT, hrl, hr32, hts⟩ := hrel
    have HR32 := Hid.mk' hr32
    have HTS := Hid.mk' hts
    have HRL := Hid.mk' hrl
    clear hr32 hts hrl
    by_cases hlt : (ts.length : Int) < 1 + (x1 : Int)
    · obtain ⟨wl, hwl⟩ : ∃ V, wr.alloc (.cells #[] 34) = V := ⟨_, rfl⟩
      have hbl : Below wr.heap.size wr wl := by rw [← hwl]; exact below_make
      have hLl : tableR.own wl [.slice (some ⟨wr.heap.size, 0, none⟩) 0 0] [] [wr.heap.size] := by rw [← hwl]; exact ⟨_, [], rfl, by simp [Value.ownBlock, blocksOf], ownG_madeD _ _ _⟩
      have HT := Hid.mk' hT
      have HWL := Hid.mk' hwl
      have HLL := Hid.mk' hLl
      have hxn : ts.length ≤ 3 := by omega
      clear hwl hT hLl
      go_wp2_with fail
      rw [HWL.out]
      clear HWL
      obtain ⟨wo, hwo⟩ : ∃ v, v = wr := ⟨_, rfl⟩
      subst hwo
      obtain ⟨P, hP⟩ : ∃ P, wo.heap.size = P := ⟨_, rfl⟩
      have HP := Hid.mk' hP
      rw [hP] at HLL
      simp only [hP]
      clear hP
      go_loopw [10, 9] (fun i s wj => ∃ (j gl cl : Nat) (ll : List Pr), j ≤ na ∧ i = .int .i64 (j : Int) ∧ s = .slice (some ⟨gl, 0, none⟩) ll.length cl ∧ tableR.own wj [.slice (some ⟨gl, 0, none⟩) ll.length cl] ll [gl] ∧ P ≤ gl ∧ ll.length ≤ j ∧ (∀ p ∈ ll, tiny p) ∧ Below P wo wj) (fun i _ _ => na - (intOf i).toNat)
      case atStart => exact ⟨0, _, _, [], Nat.zero_le _, rfl, rfl, HLL.out, Nat.le_refl _, Nat.le_refl _, fun p hp => absurd hp List.not_mem_nil, by rw [← HP.out]; exact hbl⟩
      case round =>
        obtain ⟨j, gl, cl, ll, hj, rfl, rfl, hL, hgP, hlj, htl, hBj⟩ := hrel
        have HTL := Hid.mk' htl
        have HL := Hid.mk' hL
        have HTj : Hid (TSt w0 w wr gc a len cap code S w.heap.size no pv ga na ca al vR rs qR gT ts.length cT ts qT) := HT.out.below (by rw [HP.out]; exact hBj)
        clear hL htl
        by_cases hja : j < na
        · have hjl : j < al.length := by omega
          have hji : (j : Int) < (na : Int) := by omega
          obtain ⟨c0, c1⟩ := HTj.out.all.sl.cells j hjl
          simp only [Nat.zero_add] at c0 c1
          have htp := hal al[j] (List.getElem_mem hjl)
          have HSH := Hid.mk' (ords.spec_shardOf al[j].1 (1 + (x1 : Int)) wr (by have := htp.1; unfold maxLen; omega) (WalkArith.wf_i64 (by omega)))
          generalize al[j] = p at *
          generalize ords.shardOf p.1 (1 + (x1 : Int)) = sh at *
          by_cases hsh : sh = (ts.length : Int)
          · have hq : (sh == (ts.length : Int)) = true := by simp [hsh]
            obtain ⟨V, hV⟩ : ∃ V, wr.alloc (.cells #[.string p.1, .string p.2] 34) = V := ⟨_, rfl⟩
            have hbv : Below wr.heap.size wr V := by rw [← hV]; exact below_make
            have hXV : BoxIn wr.heap.size 34 [] [.string p.1, .string p.2] [] V := by rw [← hV]; exact boxIn_new wr _ _
            obtain ⟨g', c', w8, hrun, hO8, hgr, hat⟩ := pair_app (tableR.ownBelow HL.out hbv) (p := p) ⟨by have := htp.1; unfold maxLen; omega, by have := htp.2; unfold maxLen; omega⟩ hXV (by omega) 30
            have hBV := hBj.trans (hbv.mono (by have h1 := hBj.size; have h2 := HP.out; omega))
            have hB8 := hBV.grown hgr (by have h1 := hBV.size; have h2 := HP.out; omega) (fun k e => by have := Option.some.inj e; omega)
            have hsj := hBV.size
            have hP9 := HP.out
            have hg8 : P ≤ g' := by rcases hat with e | e <;> omega
            have HV := Hid.mk' hV
            have HO8 := Hid.mk' hO8
            have HB8 := Hid.mk' hB8
            have HTL8 : Hid (∀ q ∈ ll ++ [p], tiny q) := fun q hq => by
              rcases List.mem_append.1 hq with e | e
              · exact HTL.out q e
              · rw [List.mem_singleton.1 e]; exact htp
            have HLN : Hid ((ll ++ [p]).length = ll.length + 1) := by show _ = _; simp
            clear hV hbv hXV hO8 hgr hat hBV hB8 hsh hsj hP9 HL HTL
            go_wp2_with fail
            refine HSH.out.mono ?_
            rintro e w9 ⟨rfl, hw9⟩
            replace hw9 := hw9.symm
            subst hw9
            go_wp2_with (at_builtin; rw [HV.out]; refine cos.wpList_append_run rfl _ _ 30 rfl (by kernel_rfl) (by kernel_rfl) hrun ?_)
            go_wp2_with fail
            go_roundw
            case rel => exact ⟨j + 1, g', c', ll ++ [p], by omega, by go_num, by rw [HLN.out], by rw [HLN.out]; exact HO8.out, hg8, by rw [HLN.out]; omega, HTL8.out, HB8.out⟩
            case measure => simp [intOf]; omega
          · have hq : (sh == (ts.length : Int)) = false := by simp [hsh]
            clear hsh
            go_wp2_with fail
            refine HSH.out.mono ?_
            rintro e w9 ⟨rfl, hw9⟩
            replace hw9 := hw9.symm
            subst hw9
            go_wp2_with fail
            go_roundw
            case rel => exact ⟨j + 1, gl, cl, ll, by omega, by go_num, rfl, HL.out, hgP, by omega, HTL.out, hBj⟩
            case measure => simp [intOf]; omega
        · have hji : ¬ (j : Int) < (na : Int) := by omega
          have hll8 : ll.length ≤ 8 := by omega
          obtain ⟨V, hV⟩ : ∃ V, wr.alloc (.cells #[.slice (some ⟨gl, 0, none⟩) ll.length cl] 90) = V := ⟨_, rfl⟩
          have hbv : Below wr.heap.size wr V := by rw [← hV]; exact below_make
          have hXV : BoxIn wr.heap.size 90 [] [.slice (some ⟨gl, 0, none⟩) ll.length cl] [] V := by rw [← hV]; exact boxIn_new wr _ _
          have hTV := HTj.out.below hbv
          have hpl : ∀ k ∈ gT :: blocksOf qT, k < P := fun k hk => by have := HT.out.tab.lts k hk; rw [HP.out] at this; exact this
          obtain ⟨g', c', w8, hrun, hO8, hgr, hat⟩ := cos.OwnG.appRun (P := Tryz.prog) (z := .agg #[.slice none 0 0]) Tryz.underlying50 infoTbB rfl (by decide) hTV.tab (show tableN.own V [.slice (some ⟨gl, 0, none⟩) ll.length cl] ll [gl] from ⟨gl, ll.length, cl, rfl, tableR.ownBelow HL.out hbv⟩) (fun b hb hc => by
            have h1 : b = gl := by simpa using hb
            have h2 := hpl b (by simpa [Value.ownBlock] using hc)
            omega) hXV (by unfold maxLen; omega) (by omega) 50
          have hwP : w.heap.size ≤ P := by rw [← HP.out]; exact HT.out.grown.size
          have hT8 := hTV.app hO8 (by simpa [Value.ownBlock] using hgr) (by
            rcases hat with e | e
            · left; simpa [Value.ownBlock] using e
            · exact .inr e) (fun k hk => by have h1 : k = gl := by simpa using hk
                                            omega)
          have HT8 := Hid.mk' hT8
          obtain ⟨va, vn, vc, rfl⟩ := slice_shape (own_mk hT8.rts)
          have hgl8 : gl < w8.heap.size := by
            have h1 := tableR.ownLt HL.out gl (by simp)
            have := hbv.size
            have := hgr.size
            omega
          have HL8 : Hid (tableR.own w8 [.slice (some ⟨gl, 0, none⟩) ll.length cl] ll [gl]) := tableR.ownGrown (tableR.ownBelow HL.out hbv) hgr (fun k hk e => by
            have h1 : k = gl := by simpa using hk
            have h2 : k = gT := by simpa [Value.ownBlock] using e
            have := hpl gT (by simp)
            omega)
          have HLIM : Hid (∀ p ∈ ll, lim p) := fun p hp => by have := HTL.out p hp; exact ⟨Nat.le_trans this.1 (by omega), Nat.le_trans this.2 (by omega)⟩
          have HTS8 : Hid (∀ t ∈ ts ++ [ll], t.length ≤ 8 ∧ ∀ p ∈ t, tiny p) := fun t ht => by
            rcases List.mem_append.1 ht with e | e
            · exact HTS.out t e
            · rw [List.mem_singleton.1 e]; exact ⟨hll8, HTL.out⟩
          have HLN : Hid ((ts ++ [ll]).length = ts.length + 1) := by show _ = _; simp
          have HV := Hid.mk' hV
          have hclc : ll.length ≤ cl := by
            obtain ⟨v', q', e', _, hh⟩ := HL.out
            cases e'
            rcases hh.shape with ⟨e9, _⟩ | ⟨_, _, e9, h9, _⟩
            · cases e9
            · cases e9; exact h9
          clear hV hbv hXV hTV hO8 hgr hat hpl HL HTL HTj hT8
          go_wp2_with (at_builtin; rw [HV.out]; refine cos.wpList_append_run rfl _ _ 50 rfl (by kernel_rfl) (by kernel_rfl) hrun ?_)
          clear hrun HV
          obtain ⟨z0, z1, z2, z3⟩ := box4d HT8.out.box
          go_wp2_with fail
          have hdW : Below w8.heap.size w8 w8.drew := (Below.refl _ _).drew
          refine last.wp_region_later (S := fun w' => BoxIn S 49 [] [.int .i64 no, .string pv, .string ⟨#[]⟩, .slice va vn vc] [] w') 7 (by kernel_rfl) (HT8.out.box.below hdW) (fun hHeld0 => ?_)
          have HTD := Hid.mk' (HT8.out.below hdW)
          have hgD : gl < w8.drew.heap.size := Nat.lt_of_lt_of_le hgl8 hdW.size
          have HRT := Hid.mk' (spec_l4Root ll gl 0 cl w8.drew (table_see.1 (tableR.ownSee (tableR.ownBelow HL8.out hdW))).1 hclc (by omega) HLIM.out)
          generalize hD : w8.drew = D at *
          clear hD z0 z1 z2 z3
          refine last.wpAnyL_take (i := 0) (v := (.pointer (some ⟨S, 3, none⟩))) rfl rfl (by kernel_rfl) (by kernel_rfl) (by kernel_rfl) (by kernel_rfl) (fun _ _ _ h => h) (Or.inl ⟨by rfl, ?_⟩) (by assumption) ?_
          · intro wq hSq; go_simp
          try simp only [Act.put, List.setIfInBounds_toArray, List.set_cons_zero, List.set_cons_succ]
          refine last.wpAnyL_take (i := 1) (v := (.slice va vn vc)) rfl rfl (by kernel_rfl) (by kernel_rfl) (by kernel_rfl) (by kernel_rfl) (fun _ _ _ h => h) (Or.inl ⟨by rfl, ?_⟩) (by assumption) ?_
          · intro wq hSq; have q := (box4d hSq).2.2.2; go_simp
          try simp only [Act.put, List.setIfInBounds_toArray, List.set_cons_zero, List.set_cons_succ]
          refine last.wpAnyL_take (i := 2) (v := (.slice (some ⟨gl, 0, none⟩) ll.length cl)) rfl rfl (by kernel_rfl) (by kernel_rfl) (by kernel_rfl) (by kernel_rfl) (fun _ _ _ h => h) (Or.inl ⟨by rfl, ?_⟩) (by assumption) ?_
          · intro wq hSq; go_simp
          try simp only [Act.put, List.setIfInBounds_toArray, List.set_cons_zero, List.set_cons_succ]
          refine last.wpAnyL_one (i := 3) (o := { dst := some 60, op := Op.call { callee := Callee.value (Operand.func 52), args := #[Operand.tmp 59], argTypes := #[30] }, type := 9, pos := "l16_bundle.go:60", after := #[{ on := 2, ground := Ground.data }], guard := none }) (by kernel_rfl) rfl (fun K hK => ?_)
          refine stepg.call1 rfl 52 (.tmp 59) _ rfl (fun _ _ => rfl) (.slice (some ⟨gl, 0, none⟩) ll.length cl) (by kernel_rfl) _ HRT.out ?_
          rintro e w9 ⟨rfl, hb9⟩
          refine ⟨_, rfl, ?_⟩
          have hT9 := HTD.out.below hb9
          have hrt : (rootOf ll).size = 32 := dg_size _
          generalize rootOf ll = rt at *
          refine hK.out _ _ ?_ (fun hHeld => ?_)
          · exact hT9.box
          clear hK K hHeld0
          have hHeld0 := hHeld
          clear hHeld
          try simp only [Act.put, List.setIfInBounds_toArray, List.set_cons_zero, List.set_cons_succ]
          refine last.wpAnyL_one (i := 4) (o := { dst := some 61, op := Op.buildSlice 24 1 #[(0, Operand.tmp 60)], type := 24, pos := "l16_bundle.go:60", after := #[{ on := 3, ground := Ground.data }], guard := none }) (by kernel_rfl) rfl (fun K hK => ?_)
          go_simp
          obtain ⟨V, hV⟩ : ∃ V, w9.alloc (.cells #[.string rt] 9) = V := ⟨_, rfl⟩
          have hbv : Below w9.heap.size w9 V := by rw [← hV]; exact below_make
          have hXV : BoxIn w9.heap.size 9 [] [.string rt] [] V := by rw [← hV]; exact boxIn_new w9 _ _
          have hT10 := hT9.below hbv
          rw [hV]
          refine hK.out _ _ ?_ (fun hHeld => ?_)
          · exact hT10.box
          clear hK K hHeld0
          have hHeld0 := hHeld
          clear hHeld
          try simp only [Act.put, List.setIfInBounds_toArray, List.set_cons_zero, List.set_cons_succ]
          refine last.wpAnyL_one (i := 5) (o := { dst := some 62, op := Op.call { callee := Callee.builtin Builtin.append, args := #[Operand.tmp 58, Operand.tmp 61], argTypes := #[24, 24] }, type := 24, pos := "l16_bundle.go:60", after := #[{ on := 1, ground := Ground.data }, { on := 4, ground := Ground.data }, { on := 3, ground := Ground.chain }], guard := none }) (by kernel_rfl) rfl (fun K hK => ?_)
          obtain ⟨g5, c5, w11, hrun, hO11, hgr, hat⟩ := cos.OwnG.appRun (P := Tryz.prog) (z := .string ⟨#[]⟩) Tryz.underlying24 infoStrD rfl (by decide) hT10.rts (show str.own V [.string rt] rt [] from ⟨⟨rfl, by rw [hrt]; unfold maxLen; omega⟩, rfl⟩) (fun b hb => absurd hb List.not_mem_nil) hXV (by have := HRL.out; unfold maxLen; omega) (by have := HRL.out; omega) 24
          obtain ⟨hb11, hT11⟩ := hT10.root hO11 hgr hat
          refine cos.step_append_run rfl (.tmp 58) (.tmp 61) 24 rfl (by kernel_rfl) (by kernel_rfl) hrun ?_
          clear hrun
          refine hK.out _ _ ?_ (fun hHeld => ?_)
          · exact hb11
          clear hK K hHeld0
          have hHeld0 := hHeld
          clear hHeld
          try simp only [Act.put, List.setIfInBounds_toArray, List.set_cons_zero, List.set_cons_succ]
          refine last.wpAnyL_take (i := 6) (v := (.pointer (some ⟨S, 3, none⟩))) rfl rfl (by kernel_rfl) (by kernel_rfl) (by kernel_rfl) (by kernel_rfl) (fun _ _ _ h => h) (Or.inl ⟨by rfl, ?_⟩) (by assumption) ?_
          · intro wq hSq; go_simp
          try simp only [Act.put, List.setIfInBounds_toArray, List.set_cons_zero, List.set_cons_succ]
          refine last.wpAnyL_last (o := { dst := none, op := Op.store 24 (Operand.tmp 63) (Operand.tmp 62), type := 0, pos := "l16_bundle.go:60", after := #[{ on := 6, ground := Ground.data }, { on := 5, ground := Ground.data }, { on := 5, ground := Ground.chain }, { on := 0, ground := Ground.phase }, { on := 1, ground := Ground.phase }, { on := 2, ground := Ground.phase }, { on := 3, ground := Ground.phase }, { on := 4, ground := Ground.phase }, { on := 5, ground := Ground.phase }], guard := none }) (by kernel_rfl) rfl (by kernel_rfl) (fun K hK => ?_)
          obtain ⟨z0, z1, z2, z3⟩ := box4d hb11
          have f3 := hb11.fz 3
          go_simp
          refine hK.out _ _ ?_
          clear hK K
          have HT11 := Hid.mk' hT11
          have HR11 : Hid (∀ r ∈ rs ++ [rt], r.size = 32) := fun r hr => by
            rcases List.mem_append.1 hr with e | e
            · exact HR32.out r e
            · rw [List.mem_singleton.1 e]; exact hrt
          have HRL11 : Hid ((rs ++ [rt]).length ≤ (ts ++ [ll]).length) := by show _ ≤ _; have := HRL.out; simp; omega
          clear hT11 hb11 hT10 hT9 hO11 hgr hat hXV hbv hV hb9 z0 z1 z2 z3 f3
          go_wp2_with fail
          go_roundw
          case rel => exact ⟨_, rs ++ [rt], _, g', c', ts ++ [ll], _, by rw [HLN.out]; omega, by rw [HLN.out]; go_num, by rw [HLN.out], by rw [HLN.out]; exact HT11.out, HRL11.out, HR11.out, HTS8.out⟩
          case measure => simp [intOf]; omega
    · obtain ⟨va, vn, vc, rfl⟩ := slice_shape (own_mk hT.rts)
      obtain ⟨z0, z1, z2, z3⟩ := box4d hT.box
      have hrs := texts_see.1 (textsR.ownSee (own_mk hT.rts : textsR.own wr [.slice va vn vc] rs _))
      have hrn : rs.length ≤ 3 := by have := HRL.out; omega
      have hsum : rs.length + puttexts.sum rs ≤ 1048576 := by
        have key : ∀ l : List ByteArray, (∀ r ∈ l, r.size = 32) → puttexts.sum l = 32 * l.length := fun l hl => sum_32 hl
        have := key rs HR32.out
        omega
      have HSU := Hid.mk' (spec_superOf no pv va vn vc rs wr hrs.1 hnow (by omega) hsum)
      have hso : (superOf no pv rs).size = 32 := dg_size _
      have HT := Hid.mk' hT
      generalize superOf no pv rs = so at *
      clear hT hrs
      go_wp2_with fail
      refine HSU.out.mono ?_
      rintro e w9 ⟨rfl, hb9⟩
      have hT9 := HT.out.below hb9
      have f2 := hT9.box.fz 2
      have hS := hT9.box.set 2 (by simp) (.string so)
      simp only [List.length_nil, Nat.zero_add, List.set_cons_succ, List.set_cons_zero] at hS
      have hne : w.heap.size ≠ S := hT9.nSR
      have hrt := hT9.ret.grown hS.2 (fun e => hne (Option.some.inj e))
      have hrv : OwnG 9 str _ (.slice va vn vc) rs qR := hT9.rts.keep (fun k hk => hS.2.block k (hT9.rts.at_ k hk) (fun e => by
        rcases List.mem_append.1 hk with hk | hk
        · exact row_box hT9.rts.row hT9.box (by decide) (by rw [← e]; simpa using hk)
        · rw [(cos.flat_str.parts hT9.rts).2.2.1] at hk; cases hk))
      have htb := hT9.tab.keep (fun k hk => hS.2.block k (hT9.tab.at_ k hk) (fun e => tabs_box hT9.tab hT9.box (by decide) (by decide) (by rw [← Option.some.inj e]; exact hk)))
      have hlt9 := hT9.lt
      have hge9 := hT9.cur.ge
      have hcu := hT9.cur.grown hS.2 (fun e => by have := Option.some.inj e; have := hT9.nS; omega) (fun k e => by have := Option.some.inj e; have := hT9.nS; omega)
      have hgw := grown_own hT9.grown hS.2 hT9.nS
      obtain ⟨z0, z1, z2, z3⟩ := box4d hT9.box
      obtain ⟨y0, y1, y2, y3⟩ := box4d hS.1
      obtain ⟨r0, r1, r2, r3⟩ := box4d hrt
      have k0 := hrt.fz 0
      have k1 := hrt.fz 1
      have k2 := hrt.fz 2
      have k3 := hrt.fz 3
      have hZ := hrt.whole [.int .i64 no, .string pv, .string so, .slice va vn vc] rfl
      obtain ⟨u0, u1, u2, u3⟩ := box4d hZ.1
      simp only [putAll, Nat.zero_add, Nat.reduceAdd] at u0 u1 u2 u3
      have HG : Hid (GotTab w0 w gc a len cap code (.returned (.tuple #[.agg #[.int .i64 no, .string pv, .string so, .slice va vn vc], .slice (some ⟨gT, 0, none⟩) ts.length cT])) (putAll (w9.setCell ⟨S, 2, none⟩ (.string so)) w.heap.size 0 [.int .i64 no, .string pv, .string so, .slice va vn vc])) := by
        refine ⟨(no, pv, so, rs), va, vn, vc, _, some ⟨gT, 0, none⟩, ts.length, cT, _, ts, rfl, own_mk (hrv.keep (fun k hk => hZ.2.block k (hrv.at_ k hk) (fun e => ?_))), fun k hk => ?_, own_mk (htb.keep (fun k hk => hZ.2.block k (htb.at_ k hk) (fun e => tabs_box htb hrt (by decide) (by decide) (by rw [← Option.some.inj e]; exact hk)))), fun k hk => hT9.nT k (by simpa [Value.ownBlock] using hk), hno, by show pv.size = 32; omega, hso, HR32.out, hrn, HTS.out, hcu.grown hZ.2 (fun e => by have := Option.some.inj e; omega) (fun k e => by have := Option.some.inj e; omega), grown_own hgw hZ.2 (Nat.le_refl _)⟩
        · rcases List.mem_append.1 hk with hk | hk
          · exact row_box hrv.row hrt (by decide) (by rw [← e]; simpa using hk)
          · rw [(cos.flat_str.parts hrv).2.2.1] at hk; cases hk
        · rcases List.mem_append.1 hk with hk | hk
          · exact hT9.nV k (by simpa using hk)
          · rw [(cos.flat_str.parts hrv).2.2.1] at hk; cases hk
      simp only [putAll, Nat.zero_add, Nat.reduceAdd] at HG
      clear hZ hcu hgw hrv htb hrt hS hT9 HT hb9 HSU
      go_wp2_with fail
      refine bodyPost_ret (v := .tuple #[.agg #[.int .i64 no, .string pv, .string so, .slice va vn vc], .slice (some ⟨gT, 0, none⟩) ts.length cT]) ?_ rfl HG.out
      simp [results, Tryz.results18, go_sem, u0, u1, u2, u3]
end Go.Proofs.YteammdkipnfmnaaGreatDoor.bun
