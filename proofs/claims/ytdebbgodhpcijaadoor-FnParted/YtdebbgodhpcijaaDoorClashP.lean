/- The specification's parting of two ways. -/
import Derived.Test.YtdebbgodhpcijaaDoorClashS
namespace Go.Proofs.YtdebbgodhpcijaaDoor.clash
open Go Go.RowKit Go.Proofs.YtdebbgodhpcijaaDoor.base Go.Proofs.YtdebbgodhpcijaaDoor.pairs Go.Proofs.YtdebbgodhpcijaaDoor.tree Go.Proofs.YtdebbgodhpcijaaDoor.range Go.Proofs.YtdebbgodhpcijaaDoor.puttext Go.Proofs.YtdebbgodhpcijaaDoor.putnum
set_option linter.unusedVariables false
set_option linter.unusedSimpArgs false

theorem ok_lim' {l : List Pr} (h : pairsOk l = true) : ∀ p ∈ l, lim p := fun p hp => by
  have := okMem h p hp
  unfold pairOk keyOk at this
  simp only [Bool.and_eq_true, decide_eq_true_eq] at this
  exact ⟨by omega, by omega⟩
theorem allOf_small {leaf : List UInt8} {i n : Nat} {P mine : List ByteArray} (h : allOf leaf i n P = some mine) (hl : leaf.length ≤ 137438953472) (hp : ∀ s ∈ P, s.size ≤ 137438953472) : (∀ s ∈ mine, s.size ≤ 137438953600) ∧ mine.length ≤ n + 2 ∧ 1 ≤ mine.length := by
  unfold allOf at h
  obtain ⟨out, ho, rfl⟩ := Option.map_eq_some_iff.1 h
  have h1 := hashed_small leaf i n P out ho hl hp
  have h2 := hashed_len leaf i n P out ho
  refine ⟨fun s hs => ?_, by simp; omega, by simp⟩
  rcases List.mem_append.1 hs with h3 | h3
  · exact h1 s h3
  · rw [List.mem_singleton.1 h3, arr_size]
    have := topB_length (n : Int) (dg (out.getLastD ⟨#[]⟩).data.toList)
    have := dg_size (out.getLastD ⟨#[]⟩).data.toList
    omega
theorem allOf_len {leaf : List UInt8} {i n : Nat} {P mine : List ByteArray} (h : allOf leaf i n P = some mine) : mine.length = depth i n + 2 := by
  unfold allOf at h
  obtain ⟨out, ho, rfl⟩ := Option.map_eq_some_iff.1 h
  rw [List.length_append, hashed_length _ _ _ _ _ ho]; rfl
/-- two texts and whether they clash come back -/
def PAPost (w : World) (r : ByteArray × ByteArray × Bool) (e : Ending) (w' : World) : Prop := e = .returned (.tuple #[.string r.1, .string r.2.1, .bool r.2.2]) ∧ Below w.heap.size w w'
theorem pa_is {w w' : World} {r : ByteArray × ByteArray × Bool} {a b : ByteArray} {c : Bool} (hr : r = (a, b, c)) (hB : Below w.heap.size w w') : PAPost w r (.returned (.tuple #[.string a, .string b, .bool c])) w' := by
  subst hr; exact ⟨rfl, hB⟩
theorem topOf_size (l : List Pr) : (topOf l).size ≤ 100 := by
  unfold topOf
  rw [arr_size]
  have := topB_length (l.length : Int) (inner l)
  have := inner_size l
  omega
set_option maxHeartbeats 1000000 in
theorem spec_l6None (b off cap : Nat) (l : List Pr) (w : World) (h : SlP w (some ⟨b, off, none⟩) l.length l) (hcap : l.length ≤ cap) (h60 : l.length ≤ 60) (hlim : ∀ p ∈ l, lim p) :
    Calls Tryd.prog 57 #[.slice (some ⟨b, off, none⟩) l.length cap] w fun e w' => e = .returned (.string (topOf l)) ∧ Below w.heap.size w w' := by
  have HI := Hid.mk' (spec_l4Inner l.length l rfl h60 hlim b off cap w h hcap)
  have HT := Hid.mk' (fun wx => spec_l4Top (l.length : Int) (inner l) wx (WalkArith.wf_i64 (by omega)) (by have := inner_size l; omega))
  have HQ : Hid ((⟨(topB (l.length : Int) (inner l)).toArray⟩ : ByteArray) = topOf l) := rfl
  generalize inner l = x at *
  clear h hlim
  go_enter Tryd.func57, Tryd.ntmps57
  go_wp2_with fail
  refine HI.out.mono ?_
  rintro e w1 ⟨rfl, hb1⟩
  clear HI
  go_wp2_with fail
  refine (HT.out _).mono ?_
  rintro e w2 ⟨g, n, c, rfl, hO, hb2⟩
  have hcv := conv_own hO
  have hB2 := hb1.trans (hb2.mono hb1.size)
  clear hO HT
  go_wp2_with fail
  go_ret
  exact ⟨ret_str HQ.out, hB2⟩
set_option maxRecDepth 100000 in
set_option maxHeartbeats 4000000 in
theorem spec_partAt (b off cap : Nat) (l : List Pr) (p : Pr) (I N : Int) (pb po pcap : Nat) (P : List ByteArray) (w : World) (h : SlP w (some ⟨b, off, none⟩) l.length l) (hcap : l.length ≤ cap) (hks : ∀ p ∈ l, p.1.size ≤ 1099511627776) (hp : lim p) (hP : SlS w (some ⟨pb, po, none⟩) P.length P) (hPs : ∀ s ∈ P, s.size ≤ 137438953472) (hpc : P.length ≤ pcap) :
    Calls Tryd.prog 18 #[.slice (some ⟨b, off, none⟩) l.length cap, .agg #[.string p.1, .string p.2], .int .i64 I, .int .i64 N, .slice (some ⟨pb, po, none⟩) P.length pcap] w (PAPost w (partAt l p I N P)) := by
  have hlen := leafB_length p
  have hp1 := hp.1
  have hp2 := hp.2
  obtain ⟨w0, hw0⟩ : ∃ w0, w0 = w.alloc (.cells #[.string p.1, .string p.2] 28) := ⟨_, rfl⟩
  have hba : Below w.heap.size w w0 := by rw [hw0]; exact (Below.refl _ _).alloc (Nat.le_refl _) _
  have hc1 : w0.cell? ⟨w.heap.size, 0, none⟩ = some (.string p.1) := by rw [hw0]; simp
  have hc2 : w0.cell? ⟨w.heap.size, 1, none⟩ = some (.string p.2) := by rw [hw0]; simp
  have hl0 : w.heap.size < w0.heap.size := World.block_lt_of_cell? w0 _ hc1
  have hok0 := spec_pairsOk b off l.length cap l w0 (h.below hba) hks
  by_cases hok : pairsOk l = true
  · rw [hok] at hok0
    have HOK := Hid.mk' hok0
    clear hok0
    by_cases hN : 1 ≤ N ∧ N ≤ 60
    · have h1 := fun wx => s_inI N 1 60 wx
      rw [decide_eq_true hN] at h1
      have H1 := Hid.mk' h1
      obtain ⟨n, hn⟩ : ∃ n : Nat, N = (n : Int) := ⟨N.toNat, by omega⟩
      subst hn
      clear h1
      by_cases hI : 0 ≤ I ∧ I ≤ (n : Int) - 1
      · have h2 := fun wx => s_inI I 0 ((n : Int) - 1) wx
        rw [decide_eq_true hI] at h2
        have H2 := Hid.mk' h2
        obtain ⟨i, hi⟩ : ∃ i : Nat, I = (i : Int) := ⟨I.toNat, by omega⟩
        subst hi
        have hn60 : n ≤ 60 := by omega
        have hin : i < n := by omega
        have HLF := Hid.mk' (fun wx => spec_l4Leaf p wx hp)
        have HALL : Hid (∀ wx lg ln lcap lbase, Below w.heap.size w wx → Own wx lbase lg ln lcap (leafB p) → Calls Tryd.prog 55 #[.slice (some ⟨lg, 0, none⟩) ln lcap, .int .i64 (i : Int), .int .i64 (n : Int), .slice (some ⟨pb, po, none⟩) P.length pcap] wx (HPost wx (allOf (leafB p) i n P))) :=
          fun wx lg ln lcap lbase hx hL => spec_l4All (leafB p) lbase lg ln lcap i n pb po pcap P wx hn60 hL (by omega) (hP.below hx) hPs hpc hin
        clear h2 hN hI
        cases hm : allOf (leafB p) i n P with
        | none =>
          rw [hm] at HALL
          have HR := Hid.mk' (partAt_none l p i n P hm)
          clear hm h hP hPs hks
          go_enter Tryd.func18, Tryd.ntmps18
          go_wp2_with fail
          rw [← hw0]
          clear hw0
          refine HOK.out.mono ?_
          rintro e w1 ⟨rfl, hb1⟩
          have hB1 := hba.trans (hb1.mono hba.size)
          have d1 := (hb1.cell (p := ⟨w.heap.size, 0, none⟩) hl0).trans hc1
          have d2 := (hb1.cell (p := ⟨w.heap.size, 1, none⟩) hl0).trans hc2
          clear hc1 hc2 hl0 HOK hb1
          go_wp2_with fail
          refine (H1.out _).mono ?_
          rintro e w2 ⟨rfl, hw2⟩
          subst hw2
          go_wp2_with fail
          refine (H2.out _).mono ?_
          rintro e w2 ⟨rfl, hw2⟩
          subst hw2
          go_wp2_with fail
          refine (HLF.out _).mono ?_
          rintro e w3 ⟨lg, ln, lcap, rfl, hL, hb3⟩
          have hB3 := hB1.trans (hb3.mono hB1.size)
          have HA := Hid.mk' (HALL.out w3 lg ln lcap _ hB3 hL)
          clear hL hb3 HALL d1 d2
          go_wp2_with fail
          refine HA.out.mono ?_
          rintro e w4 ⟨hb4, v, rfl⟩
          have hB4 := hB3.trans (hb4.mono hB3.size)
          clear HA hb4
          go_wp2_with fail
          go_ret3
          exact pa_is HR.out hB4
        | some mine =>
          rw [hm] at HALL
          have hsm := allOf_small hm (by omega) hPs
          have h60l := ok60 hok
          have hlim := ok_lim' hok
          have HNO : Hid (∀ wx, Below w.heap.size w wx → Calls Tryd.prog 57 #[.slice (some ⟨b, off, none⟩) l.length cap] wx fun e w' => e = .returned (.string (topOf l)) ∧ Below wx.heap.size wx w') := fun wx hx => spec_l6None b off cap l wx (h.below hx) hcap h60l hlim
          have htz := topOf_size l
          obtain ⟨m', lst, hml⟩ := snoc_of_ne (l := mine) (by intro e; rw [e] at hsm; simp at hsm)
          have hlast : lastOf mine = lst := by rw [hml]; exact lastOf_snoc _ _
          have hlz : lst.size ≤ 137438953600 := hsm.1 lst (by rw [hml]; simp)
          have hIC : ∀ wx : World, Calls Tryd.prog 22 #[.string lst, .string (topOf l), .int .i64 32] wx fun e w' => e = .returned (.bool (isClash lst (topOf l) 32)) ∧ Below wx.heap.size wx w' := fun wx => spec_isClash lst (topOf l) 32 wx (by omega) (by omega)
          have HIC := Hid.mk' hIC
          have hmlen : mine.length = m'.length + 1 := by rw [hml]; simp
          have hgl : mine[m'.length]? = some lst := by rw [hml]; simp
          have HGL := Hid.mk' hgl
          clear hIC hgl
          by_cases hln : l.length = n
          · subst hln
            have hil : i < l.length := hin
            have hqi := hlim _ (List.getElem_mem hil)
            have hql := leafB_length l[i]
            have hq1 := hqi.1
            have hq2 := hqi.2
            obtain ⟨theirs, hth⟩ : ∃ t, allOf (leafB l[i]) i l.length (path l i) = some t := ⟨_, allOf_way _ _ _ _ (path_length l i)⟩
            have hps : ∀ s ∈ path l i, s.size ≤ 137438953472 := fun s hs => by rw [path_small l i s hs]; omega
            have hsm2 := allOf_small hth (by omega) hps
            have hlens : mine.length = theirs.length := by rw [allOf_len hm, allOf_len hth]
            have HM := Hid.mk' (partAt_match l p i l.length P mine theirs hok hin h60l rfl hil hm hth)
            rw [hlast] at HM
            have HLF2 := Hid.mk' (fun wx => spec_l4Leaf l[i] wx hqi)
            have HPT : Hid (∀ wx, Below w.heap.size w wx → Calls Tryd.prog 50 #[.slice (some ⟨b, off, none⟩) l.length cap, .int .i64 (i : Int)] wx fun e w' =>
                ∃ g' n' cap', e = .returned (.slice (some ⟨g', 0, none⟩) n' cap') ∧ OwnS w' wx.heap.size g' n' cap' (path l i) ∧ Below wx.heap.size wx w') := fun wx hx => spec_l4Path l.length l rfl h60l hlim i b off cap wx hil (h.below hx) hcap
            have HALL2 : Hid (∀ wx lg ln lcap lbase g c gb, Own wx lbase lg ln lcap (leafB l[i]) → OwnS wx gb g (path l i).length c (path l i) → Calls Tryd.prog 55 #[.slice (some ⟨lg, 0, none⟩) ln lcap, .int .i64 (i : Int), .int .i64 (l.length : Int), .slice (some ⟨g, 0, none⟩) (path l i).length c] wx (HPost wx (some theirs))) :=
              fun wx lg ln lcap lbase g c gb hL hS => by
                have := spec_l4All (leafB l[i]) lbase lg ln lcap i l.length g 0 c (path l i) wx h60l hL (by omega) hS.sl hps hS.cases.1 hil
                rw [hth] at this; exact this
            have hq := h.cells i hil
            have hbl : b < w.heap.size := h.lt (by omega)
            have HNF := Hid.mk' (step_first mine theirs)
            have HFN := Hid.mk' (first_none mine theirs hlens)
            have hmz := hsm.1
            have htzz := hsm2.1
            have hiki : (i : Int) < (l.length : Int) := by omega
            have hml62 : m'.length ≤ 61 := by omega
            clear hm hth hP hPs hks hlim hml hlast h hps hql hq1 hq2 hsm hsm2
            generalize topOf l = tp at *
            generalize isClash lst tp 32 = cl at *
            generalize path l i = Pt at *
            generalize l[i] = li at *
            go_enter Tryd.func18, Tryd.ntmps18
            go_wp2_with fail
            rw [← hw0]
            clear hw0
            refine HOK.out.mono ?_
            rintro e w1 ⟨rfl, hb1⟩
            have hB1 := hba.trans (hb1.mono hba.size)
            have d1 := (hb1.cell (p := ⟨w.heap.size, 0, none⟩) hl0).trans hc1
            have d2 := (hb1.cell (p := ⟨w.heap.size, 1, none⟩) hl0).trans hc2
            clear hc1 hc2 hl0 HOK hb1
            go_wp2_with fail
            refine (H1.out _).mono ?_
            rintro e w2 ⟨rfl, hw2⟩
            subst hw2
            go_wp2_with fail
            refine (H2.out _).mono ?_
            rintro e w2 ⟨rfl, hw2⟩
            subst hw2
            go_wp2_with fail
            refine (HLF.out _).mono ?_
            rintro e w3 ⟨lg, ln, lcap, rfl, hL, hb3⟩
            have hB3 := hB1.trans (hb3.mono hB1.size)
            have HA := Hid.mk' (HALL.out w3 lg ln lcap _ hB3 hL)
            clear hL hb3 HALL d1 d2 H1 H2 HLF
            go_wp2_with fail
            refine HA.out.mono ?_
            rintro e w4 ⟨hb4, gm, nm, cm, rfl, hOm⟩
            have hB4 := hB3.trans (hb4.mono hB3.size)
            have hnm := hOm.1
            have hnm2 : nm = m'.length + 1 := by omega
            subst hnm2
            have hnt : theirs.length = m'.length + 1 := by omega
            have q1 := (hB4.cell (p := ⟨b, off + i * 2, none⟩) hbl).trans hq.1
            have q2 := (hB4.cell (p := ⟨b, off + i * 2 + 1, none⟩) hbl).trans hq.2
            have HOm := Hid.mk' hOm
            clear HA hb4 hOm hnm hq
            go_wp2_with fail
            refine (HLF2.out _).mono ?_
            rintro e w5 ⟨lg2, ln2, lcap2, rfl, hL2, hb5⟩
            have hB5 := hB4.trans (hb5.mono hB4.size)
            have HL2 := Hid.mk' hL2
            have HOm5 := Hid.mk' (HOm.out.below hb5)
            clear HLF2 hL2 hb5 HOm q1 q2
            go_wp2_with fail
            refine (HPT.out _ hB5).mono ?_
            rintro e w6 ⟨gp, np, cpp, rfl, hOp, hb6⟩
            have hB6 := hB5.trans (hb6.mono hB5.size)
            have hnp := hOp.1
            subst hnp
            have HA2 := Hid.mk' (HALL2.out w6 lg2 ln2 lcap2 _ gp cpp _ (HL2.out.below hb6) hOp)
            have HOm6 := Hid.mk' (HOm5.out.below hb6)
            clear HPT hOp hb6 HL2 HALL2 HOm5
            go_wp2_with fail
            refine HA2.out.mono ?_
            rintro e w7 ⟨hb7, gt, nt, ct, rfl, hOt⟩
            have hB7 := hB6.trans (hb7.mono hB6.size)
            have hnt2 : nt = m'.length + 1 := by have := hOt.1; omega
            subst hnt2
            have HOt := Hid.mk' hOt
            have HOm7 := Hid.mk' (HOm6.out.below hb7)
            clear HA2 hb7 hOt HOm6
            go_wp2_with fail
            go_loopw [17] (fun kv wr => ∃ k : Nat, kv = .int .i64 (k : Int) ∧ k ≤ m'.length + 1 ∧ NoneTo mine theirs k ∧ Below w7.heap.size w7 wr) (fun kv _ => m'.length + 1 - (intOf kv).toNat)
            case atStart => exact ⟨0, rfl, Nat.zero_le _, NoneTo.zero _ _, Below.refl _ _⟩
            case round =>
              obtain ⟨k, rfl, hk, hnone, hB⟩ := hrel
              have hBw := hB7.trans (hB.mono hB7.size)
              by_cases hlt : k < m'.length + 1
              · have hOmr := HOm7.out.below hB
                have hOtr := HOt.out.below hB
                have cm1 := hOmr.at k (by omega)
                have ct1 := hOtr.at k (by omega)
                have hgm := hOmr.lt.2
                have hgt := hOtr.lt.2
                have hmk := hmz mine[k] (List.getElem_mem (by omega))
                have htk := htzz theirs[k] (List.getElem_mem (by omega))
                have hma : mine[k]? = some mine[k] := List.getElem?_eq_getElem (by omega)
                have hta : theirs[k]? = some theirs[k] := List.getElem?_eq_getElem (by omega)
                have hki : (k : Int) < ((m'.length + 1 : Nat) : Int) := by omega
                have HF := Hid.mk' (HNF.out k mine[k] theirs[k] hlens hnone)
                have HST := Hid.mk' (fun hc => NoneTo.step hnone hma hta hc)
                have HMA := Hid.mk' hma
                have HTA := Hid.mk' hta
                have hic := fun wx => spec_isClash mine[k] theirs[k] 32 wx (by omega) (by omega)
                clear hOmr hOtr hnone hma hta
                generalize mine[k] = mk at *
                generalize theirs[k] = tk at *
                have o1 := last.On.cell cm1 hgm
                have o2 := last.On.cell ct1 hgt
                have hinh := last.On.inh wr.heap.size wr
                cases hcl : isClash mk tk 32 with
                | true =>
                  rw [hcl] at hic
                  have HR := HF.out (.inr hcl) HMA.out HTA.out
                  rw [if_pos hcl] at HR
                  have HRR : Hid (partAt l p (i : Int) (l.length : Int) P = (mk, tk, true)) := by show _ = _; rw [HM.out, HR]
                  have hcall : ∀ x : last.On wr.heap.size wr, Calls Tryd.prog 22 #[.string mk, .string tk, .int .i64 32] x.w fun e w' => e = .returned (.bool true) ∧ ∃ y : last.On wr.heap.size wr, w' = y.w := fun x => last.Calls.on x (Nat.le_refl _) (hic x.w)
                  clear hic HR HF HST HMA HTA hcl HM HNF HFN
                  go_wp2_with fail
                  refine last.wp_region_on wr.heap.size (by kernel_rfl) (by kernel_rfl) ?_
                  repeat (go_big_quiet_step ((go_at_call 22; with_reducible exact hcall _)))
                  refine wpQuiet_nil ?_
                  intro w11 hw11
                  obtain ⟨x11, hw11⟩ := hw11
                  subst hw11
                  have hB11 := hBw.trans (x11.2.mono hBw.size)
                  have e1 := o1 x11
                  have e2 := o2 x11
                  obtain ⟨w12, hw12⟩ : ∃ w12, x11.w = w12 := ⟨_, rfl⟩
                  have hB12 : Below w.heap.size w w12 := by rw [← hw12]; exact hB11
                  rw [hw12] at e1 e2 ⊢
                  clear o1 o2 hcall hB11 hw12
                  go_wp2_with fail
                  go_region
                  all_goals
                    go_wp2_with fail
                    go_ret3
                    exact pa_is HRR.out hB12.drew
                | false =>
                  rw [hcl] at hic
                  have hst := HST.out hcl
                  have hcall : ∀ x : last.On wr.heap.size wr, Calls Tryd.prog 22 #[.string mk, .string tk, .int .i64 32] x.w fun e w' => e = .returned (.bool false) ∧ ∃ y : last.On wr.heap.size wr, w' = y.w := fun x => last.Calls.on x (Nat.le_refl _) (hic x.w)
                  clear hic HF HST HMA HTA hcl
                  go_wp2_with fail
                  refine last.wp_region_on wr.heap.size (by kernel_rfl) (by kernel_rfl) ?_
                  repeat (go_big_quiet_step ((go_at_call 22; with_reducible exact hcall _)))
                  refine wpQuiet_nil ?_
                  intro w11 hw11
                  obtain ⟨x11, hw11⟩ := hw11
                  subst hw11
                  have hB11 : Below w7.heap.size w7 x11.w := hB.trans (x11.2.mono hB.size)
                  go_wp2_with fail
                  go_roundw
                  case rel => exact ⟨k + 1, by go_num, by omega, hst, hB11⟩
                  case measure => simp [intOf]; omega
              · have hke : k = m'.length + 1 := by omega
                have hfn := HFN.out (by rw [hmlen, ← hke]; exact hnone)
                have HRR : Hid (partAt l p (i : Int) (l.length : Int) P = (lst, tp, cl)) := by show _ = _; rw [HM.out, hfn]
                have hki : ¬ (k : Int) < ((m'.length + 1 : Nat) : Int) := by omega
                have hml2 := List.getElem?_eq_some_iff.1 HGL.out
                have hcl := (HOm7.out.below hB).at m'.length hml2.1
                rw [hml2.2] at hcl
                have q1 : ((m'.length + 1 : Nat) : Int) - 1 = (m'.length : Int) := by omega
                have HN := Hid.mk' (HNO.out wr hBw)
                clear hml2 HNO HGL hnone hfn HFN HNF HM hke
                go_wp2_with fail
                refine HN.out.mono ?_
                rintro e w8 ⟨rfl, hb8⟩
                have hB8 := hBw.trans (hb8.mono hBw.size)
                clear HN hcl hb8
                go_wp2_with fail
                refine (HIC.out _).mono ?_
                rintro e w9 ⟨rfl, hb9⟩
                have hB9 := hB8.trans (hb9.mono hB8.size)
                go_wp2_with fail
                go_ret3
                exact pa_is HRR.out hB9
          · have HR := Hid.mk' (partAt_far l p i n P mine hok hin hn60 hln hm)
            rw [hlast] at HR
            have hlni : ¬ (l.length : Int) = (n : Int) := by omega
            clear hm h hP hPs hks hlim hml hlast
            generalize topOf l = tp at *
            generalize isClash lst tp 32 = cl at *
            go_enter Tryd.func18, Tryd.ntmps18
            go_wp2_with fail
            rw [← hw0]
            clear hw0
            refine HOK.out.mono ?_
            rintro e w1 ⟨rfl, hb1⟩
            have hB1 := hba.trans (hb1.mono hba.size)
            have d1 := (hb1.cell (p := ⟨w.heap.size, 0, none⟩) hl0).trans hc1
            have d2 := (hb1.cell (p := ⟨w.heap.size, 1, none⟩) hl0).trans hc2
            clear hc1 hc2 hl0 HOK hb1
            go_wp2_with fail
            refine (H1.out _).mono ?_
            rintro e w2 ⟨rfl, hw2⟩
            subst hw2
            go_wp2_with fail
            refine (H2.out _).mono ?_
            rintro e w2 ⟨rfl, hw2⟩
            subst hw2
            go_wp2_with fail
            refine (HLF.out _).mono ?_
            rintro e w3 ⟨lg, ln, lcap, rfl, hL, hb3⟩
            have hB3 := hB1.trans (hb3.mono hB1.size)
            have HA := Hid.mk' (HALL.out w3 lg ln lcap _ hB3 hL)
            clear hL hb3 HALL d1 d2
            go_wp2_with fail
            refine HA.out.mono ?_
            rintro e w4 ⟨hb4, gm, nm, cm, rfl, hOm⟩
            have hB4 := hB3.trans (hb4.mono hB3.size)
            have hnm := hOm.1
            have hnm2 : nm = m'.length + 1 := by omega
            subst hnm2
            have hml2 := List.getElem?_eq_some_iff.1 HGL.out
            have hcl := hOm.at m'.length hml2.1
            rw [hml2.2] at hcl
            have q1 : ((m'.length + 1 : Nat) : Int) - 1 = (m'.length : Int) := by omega
            have HN := Hid.mk' (HNO.out w4 hB4)
            clear HA hb4 hOm hml2 hnm HNO HGL
            go_wp2_with fail
            refine HN.out.mono ?_
            rintro e w5 ⟨rfl, hb5⟩
            have hB5 := hB4.trans (hb5.mono hB4.size)
            clear HN hcl hb5
            go_wp2_with fail
            refine (HIC.out _).mono ?_
            rintro e w6 ⟨rfl, hb6⟩
            have hB6 := hB5.trans (hb6.mono hB5.size)
            go_wp2_with fail
            go_ret3
            exact pa_is HR.out hB6
      · have h2 := fun wx => s_inI I 0 ((n : Int) - 1) wx
        rw [decide_eq_false hI] at h2
        have H2 := Hid.mk' h2
        have HR := Hid.mk' (partAt_out l p I (n : Int) P (fun hh => hI hh.2.2))
        have hn60 : n ≤ 60 := by omega
        clear h2 hN hI h hP hPs hks
        go_enter Tryd.func18, Tryd.ntmps18
        go_wp2_with fail
        rw [← hw0]
        clear hw0
        refine HOK.out.mono ?_
        rintro e w1 ⟨rfl, hb1⟩
        have hB1 := hba.trans (hb1.mono hba.size)
        clear hc1 hc2 hl0 HOK hb1
        go_wp2_with fail
        refine (H1.out _).mono ?_
        rintro e w2 ⟨rfl, hw2⟩
        subst hw2
        go_wp2_with fail
        refine (H2.out _).mono ?_
        rintro e w2 ⟨rfl, hw2⟩
        subst hw2
        go_wp2_with fail
        go_ret3
        exact pa_is HR.out hB1
    · have h1 := fun wx => s_inI N 1 60 wx
      rw [decide_eq_false hN] at h1
      have H1 := Hid.mk' h1
      have HR := Hid.mk' (partAt_out l p I N P (fun hh => hN hh.2.1))
      clear h1 hN h hP hPs hks
      go_enter Tryd.func18, Tryd.ntmps18
      go_wp2_with fail
      rw [← hw0]
      clear hw0
      refine HOK.out.mono ?_
      rintro e w1 ⟨rfl, hb1⟩
      have hB1 := hba.trans (hb1.mono hba.size)
      clear hc1 hc2 hl0 HOK hb1
      go_wp2_with fail
      refine (H1.out _).mono ?_
      rintro e w2 ⟨rfl, hw2⟩
      subst hw2
      go_wp2_with fail
      go_ret3
      exact pa_is HR.out hB1
  · rw [Bool.not_eq_true] at hok
    rw [hok] at hok0
    have HOK := Hid.mk' hok0
    have HR := Hid.mk' (partAt_out l p I N P (fun hh => by rw [hok] at hh; cases hh.1))
    clear hok0 hok h hP hPs hks
    go_enter Tryd.func18, Tryd.ntmps18
    go_wp2_with fail
    rw [← hw0]
    clear hw0
    refine HOK.out.mono ?_
    rintro e w1 ⟨rfl, hb1⟩
    have hB1 := hba.trans (hb1.mono hba.size)
    clear hc1 hc2 hl0 HOK hb1
    go_wp2_with fail
    go_ret3
    exact pa_is HR.out hB1
end Go.Proofs.YtdebbgodhpcijaaDoor.clash
