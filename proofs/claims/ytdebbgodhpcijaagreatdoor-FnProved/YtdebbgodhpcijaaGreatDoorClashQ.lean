/- The program's parting of two ways. -/
import Derived.Test.YtdebbgodhpcijaaGreatDoorClashI
import Derived.Test.YtdebbgodhpcijaaGreatDoorClashP
import Derived.Test.YtdebbgodhpcijaaGreatDoorTreeR
import Derived.Test.YtdebbgodhpcijaaGreatDoorPairY
import Derived.ScopeJumps
import Derived.WalkMore
namespace Go.Proofs.YtdebbgodhpcijaaGreatDoor.clash
open Go Go.RowKit Go.Proofs.YtdebbgodhpcijaaGreatDoor.base Go.Proofs.YtdebbgodhpcijaaGreatDoor.pairs Go.Proofs.YtdebbgodhpcijaaGreatDoor.tree Go.Proofs.YtdebbgodhpcijaaGreatDoor.range Go.Proofs.YtdebbgodhpcijaaGreatDoor.puttext Go.Proofs.YtdebbgodhpcijaaGreatDoor.putnum
set_option linter.unusedVariables false
set_option linter.unusedSimpArgs false

/-- a slice of slices of bytes that is read -/
def SlV (w : World) (b off : Nat) (T : List (List UInt8)) : Prop :=
  ∀ (j : Nat) (t : List UInt8), T[j]? = some t → ∃ g n c, w.cell? ⟨b, off + j, none⟩ = some (.slice (some ⟨g, 0, none⟩) n c) ∧ Sl w (some ⟨g, 0, none⟩) n t
theorem SlV.below {w w' : World} {b off : Nat} {T : List (List UInt8)} (h : SlV w b off T) (hb : Below w.heap.size w w') : SlV w' b off T := by
  intro j t ht
  obtain ⟨g, n, c, h1, h2⟩ := h j t ht
  exact ⟨g, n, c, (hb.cell (p := ⟨b, off + j, none⟩) (World.block_lt_of_cell? w _ h1)).trans h1, h2.below hb⟩
theorem SlV.drop {w : World} {b off : Nat} {T : List (List UInt8)} (h : SlV w b off T) (d : Nat) : SlV w b (off + d) (T.drop d) := by
  intro j t ht
  rw [List.getElem?_drop] at ht
  obtain ⟨g, n, c, h1, h2⟩ := h (d + j) t ht
  exact ⟨g, n, c, by rw [Nat.add_assoc]; exact h1, h2⟩
theorem SlV.of {w : World} {base base' g n cap : Nat} {vs : List Value} {T : List (List UInt8)} (hV : OwnV w base g n cap vs) (hA : AllSl w base' vs T) : SlV w g 0 T := by
  intro j t ht
  obtain ⟨v, hv, gj, nj, cj, rfl, hO⟩ := hA.2 j t ht
  have hvl := List.getElem?_eq_some_iff.1 hv
  have hc := ownV_at hV j hvl.1
  rw [hvl.2] at hc
  exact ⟨gj, nj, cj, by rw [Nat.zero_add]; exact hc, hO.sl⟩
theorem ownV_mono {w : World} {base base' g n cap : Nat} {vs : List Value} (h : OwnV w base g n cap vs) (hb : base' ≤ base) : OwnV w base' g n cap vs := by
  refine ⟨h.1, h.2.1, ?_⟩
  rcases h.2.2 with h' | ⟨g', cap', cur, h1, h2, h3⟩
  · exact .inl h'
  · exact .inr ⟨g', cap', cur, h1, Nat.le_trans hb h2, h3⟩
theorem ownV_cap {w : World} {base g n cap : Nat} {vs : List Value} (h : OwnV w base g n cap vs) : n ≤ cap := by
  rcases h.2.2 with ⟨h', _⟩ | ⟨g', cap', cur, h1, _, _, h3, _⟩
  · simp at h'
  · simp only [Value.slice.injEq, Option.some.injEq, Addr.mk.injEq, and_true, true_and] at h1
    omega
theorem conv_slB {w : World} {b off n : Nat} {bs : List UInt8} (h : Sl w (some ⟨b, off, none⟩) n bs) (c : Nat) :
    (convert 22 9 (.slice (some ⟨b, off, none⟩) n c)).run Tryz.prog w = .ok (.string (ba bs)) w := by
  have h1 := conv_cut (w := w) (b := b) (off := off) (p := 0) (n := n) h (by have := h.1; omega) c
  have e : cut bs 0 n = ba bs := by unfold cut ba; rw [List.drop_zero, List.take_of_length_le (by have := h.1; omega)]
  rw [e] at h1
  exact h1
theorem ba_size (l : List UInt8) : (ba l).size = l.length := by show l.toArray.size = _; simp

theorem step_facts {w : World} {b1 o1 b2 o2 N : Nat} {T H : List (List UInt8)} (k : Nat) (hT : T.length = N + 1) (hH : H.length = N + 1) (hk : k ≤ N) (h1 : SlV w b1 o1 T) (h2 : SlV w b2 o2 H) (hTs : ∀ t ∈ T, t.length ≤ 1099511627776) (hHs : ∀ t ∈ H, t.length ≤ 1099511627776) :
    ∃ a b, T[k]? = some a ∧ H[k]? = some b ∧ a.length ≤ 1099511627776 ∧ b.length ≤ 1099511627776 ∧ ∃ g1 n1 d1 g2 n2 d2, w.cell? ⟨b1, o1 + k, none⟩ = some (.slice (some ⟨g1, 0, none⟩) n1 d1) ∧ w.cell? ⟨b2, o2 + k, none⟩ = some (.slice (some ⟨g2, 0, none⟩) n2 d2) ∧ Sl w (some ⟨g1, 0, none⟩) n1 a ∧ Sl w (some ⟨g2, 0, none⟩) n2 b := by
  have ha : T[k]? = some (T[k]'(by omega)) := List.getElem?_eq_getElem (by omega)
  have hb : H[k]? = some (H[k]'(by omega)) := List.getElem?_eq_getElem (by omega)
  obtain ⟨g1, n1, d1, e1, v1⟩ := h1 k _ ha
  obtain ⟨g2, n2, d2, e2, v2⟩ := h2 k _ hb
  exact ⟨_, _, ha, hb, hTs _ (List.getElem_mem _), hHs _ (List.getElem_mem _), g1, n1, d1, g2, n2, d2, e1, e2, v1, v2⟩
set_option maxRecDepth 100000 in
set_option maxHeartbeats 2000000 in
theorem impl_partStep (b1 o1 c1 b2 o2 c2 N : Nat) (T H : List (List UInt8)) (w : World) (h1 : SlV w b1 o1 T) (h2 : SlV w b2 o2 H) (hT : T.length = N + 1) (hH : H.length = N + 1) (hN : N ≤ 1000) (hc1 : N + 1 ≤ c1) (hc2 : N + 1 ≤ c2)
    (hTs : ∀ t ∈ T, t.length ≤ 1099511627776) (hHs : ∀ t ∈ H, t.length ≤ 1099511627776) (hK : sha.KW w) :
    Calls Tryz.prog 73 #[.slice (some ⟨b1, o1, none⟩) (N + 1) c1, .slice (some ⟨b2, o2, none⟩) (N + 1) c2] w fun e w' => (∃ (k : Nat) (a b : List UInt8), e = .returned (.int .i64 (k : Int)) ∧ T[k]? = some a ∧ H[k]? = some b ∧ k ≤ N ∧ NoneTo (T.map ba) (H.map ba) k ∧ (k = N ∨ isClash (ba a) (ba b) 32 = true)) ∧ Below w.heap.size w w' := by
  have hi1 : (Tryz.prog.info? 22).map (·.size) = some 1 := by kernel_rfl
  have HG := Hid.mk' (fun (wx : World) (k : Nat) (hx : Below w.heap.size w wx) (hk : k ≤ N) => step_facts k hT hH hk (h1.below hx) (h2.below hx) hTs hHs)
  have HC : Hid (∀ (wx : World) (a b : List UInt8), Below w.heap.size w wx → a.length ≤ 1099511627776 → b.length ≤ 1099511627776 → Calls Tryz.prog 37 #[.string (ba a), .string (ba b), .int .i64 32] wx fun e w' => e = .returned (.bool (isClash (ba a) (ba b) 32)) ∧ Below wx.heap.size wx w') := fun wx a b hx ha hb => impl_isClash (ba a) (ba b) 32 wx (by rw [ba_size]; exact ha) (by rw [ba_size]; exact hb) (hK.below hx)
  clear h1 h2 hTs hHs hK
  go_enter Tryz.func73, Tryz.ntmps73
  go_wp2
  refine wp_scope_jumps 0 (fun a' wr => ∃ (k : Nat) (u6 u7 u8 u9 u10 u11 u12 u13 u14 u15 u16 u17 u18 u19 u20 u21 u22 u23 u24 u25 u26 : Value), a' = { tmps := #[.slice (some ⟨b1, o1, none⟩) (N + 1) c1, .slice (some ⟨b2, o2, none⟩) (N + 1) c2, undef, undef, .int .i64 0, .int .i64 (k : Int), u6, u7, u8, u9, u10, u11, u12, u13, u14, u15, u16, u17, u18, u19, u20, u21, u22, u23, u24, u25, u26], defers := [] } ∧ k ≤ N ∧ NoneTo (T.map ba) (H.map ba) k ∧ Below w.heap.size w wr) (fun a' _ => N - (intOf (a'.tmps.getD 5 undef)).toNat) rfl ?_ ?_
  · have hB : Below w.heap.size w w := Below.refl _ _
    obtain ⟨a, b, ha, hb, hal, hbl, g1, n1, d1, g2, n2, d2, e1, e2, v1, v2⟩ := HG.out w 0 hB (Nat.zero_le _)
    simp only [Nat.add_zero] at e1 e2
    have hinh := last.On.inh w.heap.size w
    have q1 : ((N + 1 : Nat) : Int) - 1 = (N : Int) := by omega
    by_cases hkN : 0 = N
    · subst hkN
      clear e1 e2 v1 v2
      go_wp2_with fail
      go_step3
      go_wp2_with fail
      refine last.wp_region_on w.heap.size (by kernel_rfl) (by kernel_rfl) ?_
      repeat (go_big_quiet_step ((fail)))
      refine wpQuiet_nil ?_
      intro w11 hw11
      obtain ⟨x11, hw11⟩ := hw11
      subst hw11
      have hB11 : Below w.heap.size w x11.w := hB.trans (x11.2.mono hB.size)
      go_wp2_with fail
      simp only [Exit.jump]
      go_ret
      exact ⟨⟨0, a, b, rfl, ha, hb, by omega, NoneTo.zero _ _, .inl rfl⟩, hB11⟩
    · have hkI : ¬ (0 : Int) = (N : Int) := by omega
      have hkb : ((0 : Int) == (N : Int)) = false := beq_eq_false_iff_ne.2 hkI
      have hklt : (0 : Int) < ((N + 1 : Nat) : Int) := by omega
      have f1 := last.On.cell e1 (World.block_lt_of_cell? _ _ e1)
      have f2 := last.On.cell e2 (World.block_lt_of_cell? _ _ e2)
      have hcv1 : ∀ x : last.On w.heap.size w, (convert 22 9 (.slice (some ⟨g1, 0, none⟩) n1 d1)).run Tryz.prog x.w = .ok (.string (ba a)) x.w := fun x => conv_slB (v1.below x.2) d1
      have hcv2 : ∀ x : last.On w.heap.size w, (convert 22 9 (.slice (some ⟨g2, 0, none⟩) n2 d2)).run Tryz.prog x.w = .ok (.string (ba b)) x.w := fun x => conv_slB (v2.below x.2) d2
      have hic := fun x : last.On w.heap.size w => HC.out x.w a b (hB.trans (x.2.mono hB.size)) hal hbl
      have HST := Hid.mk' (fun hc => NoneTo.step (NoneTo.zero _ _) (T := T.map ba) (H := H.map ba) (a := ba a) (b := ba b) (by rw [List.getElem?_map, ha]; rfl) (by rw [List.getElem?_map, hb]; rfl) hc)
      cases hcl : isClash (ba a) (ba b) 32 with
      | true =>
        rw [hcl] at hic
        have hcall : ∀ x : last.On w.heap.size w, Calls Tryz.prog 37 #[.string (ba a), .string (ba b), .int .i64 32] x.w fun e w' => e = .returned (.bool true) ∧ ∃ y : last.On w.heap.size w, w' = y.w := fun x => last.Calls.on x (Nat.le_refl _) (hic x)
        have HCL := Hid.mk' hcl
        clear hic hcl e1 e2 v1 v2
        go_wp2_with fail
        go_step3
        go_wp2_with fail
        refine last.wp_region_on w.heap.size (by kernel_rfl) (by kernel_rfl) ?_
        repeat (go_big_quiet_step ((go_at_call 37; with_reducible exact hcall _)))
        refine wpQuiet_nil ?_
        intro w11 hw11
        obtain ⟨x11, hw11⟩ := hw11
        subst hw11
        have hB11 : Below w.heap.size w x11.w := hB.trans (x11.2.mono hB.size)
        go_wp2_with fail
        simp only [Exit.jump]
        go_ret
        exact ⟨⟨0, a, b, rfl, ha, hb, by omega, NoneTo.zero _ _, .inr HCL.out⟩, hB11⟩
      | false =>
        rw [hcl] at hic
        have hcall : ∀ x : last.On w.heap.size w, Calls Tryz.prog 37 #[.string (ba a), .string (ba b), .int .i64 32] x.w fun e w' => e = .returned (.bool false) ∧ ∃ y : last.On w.heap.size w, w' = y.w := fun x => last.Calls.on x (Nat.le_refl _) (hic x)
        have HCL := Hid.mk' hcl
        clear hic hcl e1 e2 v1 v2
        go_wp2_with fail
        go_step3
        go_wp2_with fail
        refine last.wp_region_on w.heap.size (by kernel_rfl) (by kernel_rfl) ?_
        repeat (go_big_quiet_step ((go_at_call 37; with_reducible exact hcall _)))
        refine wpQuiet_nil ?_
        intro w11 hw11
        obtain ⟨x11, hw11⟩ := hw11
        subst hw11
        have hB11 : Below w.heap.size w x11.w := hB.trans (x11.2.mono hB.size)
        go_wp2_with fail
        go_step3
        exact ⟨rfl, 1, _, _, _, _, _, _, _, _, _, _, _, _, _, _, _, _, _, _, _, _, _, rfl, by omega, HST.out HCL.out, hB11⟩
  · rintro a' wr ⟨k, u6, u7, u8, u9, u10, u11, u12, u13, u14, u15, u16, u17, u18, u19, u20, u21, u22, u23, u24, u25, u26, rfl, hk, hno, hB⟩
    obtain ⟨a, b, ha, hb, hal, hbl, g1, n1, d1, g2, n2, d2, e1, e2, v1, v2⟩ := HG.out wr k hB hk
    have hinh := last.On.inh wr.heap.size wr
    have q1 : ((N + 1 : Nat) : Int) - 1 = (N : Int) := by omega
    by_cases hkN : k = N
    · subst hkN
      clear e1 e2 v1 v2
      go_wp2_with fail
      refine last.wp_region_on wr.heap.size (by kernel_rfl) (by kernel_rfl) ?_
      repeat (go_big_quiet_step ((fail)))
      refine wpQuiet_nil ?_
      intro w11 hw11
      obtain ⟨x11, hw11⟩ := hw11
      subst hw11
      have hB11 : Below w.heap.size w x11.w := hB.trans (x11.2.mono hB.size)
      go_wp2_with fail
      simp only [Exit.jump]
      go_ret
      exact ⟨⟨_, a, b, rfl, ha, hb, by omega, hno, .inl rfl⟩, hB11⟩
    · have hkI : ¬ (k : Int) = (N : Int) := by omega
      have hkb : ((k : Int) == (N : Int)) = false := beq_eq_false_iff_ne.2 hkI
      have hklt : (k : Int) < ((N + 1 : Nat) : Int) := by omega
      have f1 := last.On.cell e1 (World.block_lt_of_cell? _ _ e1)
      have f2 := last.On.cell e2 (World.block_lt_of_cell? _ _ e2)
      have hcv1 : ∀ x : last.On wr.heap.size wr, (convert 22 9 (.slice (some ⟨g1, 0, none⟩) n1 d1)).run Tryz.prog x.w = .ok (.string (ba a)) x.w := fun x => conv_slB (v1.below x.2) d1
      have hcv2 : ∀ x : last.On wr.heap.size wr, (convert 22 9 (.slice (some ⟨g2, 0, none⟩) n2 d2)).run Tryz.prog x.w = .ok (.string (ba b)) x.w := fun x => conv_slB (v2.below x.2) d2
      have hic := fun x : last.On wr.heap.size wr => HC.out x.w a b (hB.trans (x.2.mono hB.size)) hal hbl
      have HST := Hid.mk' (fun hc => NoneTo.step hno (T := T.map ba) (H := H.map ba) (a := ba a) (b := ba b) (by rw [List.getElem?_map, ha]; rfl) (by rw [List.getElem?_map, hb]; rfl) hc)
      cases hcl : isClash (ba a) (ba b) 32 with
      | true =>
        rw [hcl] at hic
        have hcall : ∀ x : last.On wr.heap.size wr, Calls Tryz.prog 37 #[.string (ba a), .string (ba b), .int .i64 32] x.w fun e w' => e = .returned (.bool true) ∧ ∃ y : last.On wr.heap.size wr, w' = y.w := fun x => last.Calls.on x (Nat.le_refl _) (hic x)
        have HCL := Hid.mk' hcl
        clear hic hcl e1 e2 v1 v2
        go_wp2_with fail
        refine last.wp_region_on wr.heap.size (by kernel_rfl) (by kernel_rfl) ?_
        repeat (go_big_quiet_step ((go_at_call 37; with_reducible exact hcall _)))
        refine wpQuiet_nil ?_
        intro w11 hw11
        obtain ⟨x11, hw11⟩ := hw11
        subst hw11
        have hB11 : Below w.heap.size w x11.w := hB.trans (x11.2.mono hB.size)
        go_wp2_with fail
        simp only [Exit.jump]
        go_ret
        exact ⟨⟨_, a, b, rfl, ha, hb, by omega, hno, .inr HCL.out⟩, hB11⟩
      | false =>
        rw [hcl] at hic
        have hcall : ∀ x : last.On wr.heap.size wr, Calls Tryz.prog 37 #[.string (ba a), .string (ba b), .int .i64 32] x.w fun e w' => e = .returned (.bool false) ∧ ∃ y : last.On wr.heap.size wr, w' = y.w := fun x => last.Calls.on x (Nat.le_refl _) (hic x)
        have HCL := Hid.mk' hcl
        clear hic hcl e1 e2 v1 v2
        go_wp2_with fail
        refine last.wp_region_on wr.heap.size (by kernel_rfl) (by kernel_rfl) ?_
        repeat (go_big_quiet_step ((go_at_call 37; with_reducible exact hcall _)))
        refine wpQuiet_nil ?_
        intro w11 hw11
        obtain ⟨x11, hw11⟩ := hw11
        subst hw11
        have hB11 : Below w.heap.size w x11.w := hB.trans (x11.2.mono hB.size)
        go_wp2_with fail
        go_step3
        have e9 : (k : Int) + 1 = ((k + 1 : Nat) : Int) := by omega
        rw [e9]
        exact ⟨rfl, ⟨k + 1, _, _, _, _, _, _, _, _, _, _, _, _, _, _, _, _, _, _, _, _, _, rfl, by omega, HST.out HCL.out, hB11⟩, by simp [intOf]; omega⟩
/-- what is hashed for the pair that is held -/
def heldOf (l : List Pr) (i n : Nat) : List (List UInt8) := if h : l.length = n ∧ i < l.length then wayAll (leafB (l[i]'h.2)) i n (path l i) else [topB (l.length : Int) (inner l)]
theorem pcell {w w' : World} {b o : Nat} {x y : ByteArray} (hb : Below w.heap.size w w') (h : w.cell? ⟨b, o, none⟩ = some (.string x) ∧ w.cell? ⟨b, o + 1, none⟩ = some (.string y)) : w'.cell? ⟨b, o, none⟩ = some (.string x) ∧ w'.cell? ⟨b, o + 1, none⟩ = some (.string y) := keepB2 hb h
set_option maxRecDepth 100000 in
set_option maxHeartbeats 2000000 in
theorem impl_hashedOf (b off cap i n : Nat) (l : List Pr) (w : World) (h : SlP w (some ⟨b, off, none⟩) l.length l) (hcap : l.length ≤ cap) (hok : pairsOk l = true) (hin : i < n) (hn : n ≤ 60) (hK : sha.KW w) :
    Calls Tryz.prog 72 #[.slice (some ⟨b, off, none⟩) l.length cap, .int .i64 (i : Int), .int .i64 (n : Int)] w (HRow w (heldOf l i n)) := by
  have h60 := ok60 hok
  have hlim := ok_lim' hok
  by_cases hln : l.length = n
  · subst hln
    have hE : heldOf l i l.length = wayAll (leafB l[i]) i l.length (path l i) := by unfold heldOf; rw [dif_pos ⟨rfl, hin⟩]
    rw [hE]
    have hq := h.cells i hin
    have hqi := hlim _ (List.getElem_mem hin)
    have hps : ∀ s ∈ path l i, s.size ≤ 137438953472 := fun s hs => by rw [path_small l i s hs]; omega
    have HPI : Hid (pathI l (i : Int) = path l i) := by show _ = _; unfold pathI; rw [if_pos (by omega), Int.toNat_natCast]
    have HPT : Hid (∀ wx, Below w.heap.size w wx → Calls Tryz.prog 62 #[.slice (some ⟨b, off, none⟩) l.length cap, .int .i64 (i : Int)] wx fun e w' =>
        ∃ g' n' cap', e = .returned (.slice (some ⟨g', 0, none⟩) n' cap') ∧ OwnS w' wx.heap.size g' n' cap' (path l i) ∧ Below wx.heap.size wx w') := fun wx hx => by
      have := impl_pathOf b off l.length cap l (i : Int) wx (h.below hx) hcap hlim (WalkArith.wf_i64 (by omega)) (hK.below hx)
      rw [HPI.out] at this; exact this
    have HUP : Hid (∀ wx g c gb, Below w.heap.size w wx → OwnS wx gb g (path l i).length c (path l i) → Calls Tryz.prog 71 #[.agg #[.string l[i].1, .string l[i].2], .int .i64 (i : Int), .int .i64 (l.length : Int), .slice (some ⟨g, 0, none⟩) (path l i).length c] wx (HRow wx (wayAll (leafB l[i]) i l.length (path l i)))) :=
      fun wx g c gb hx hS => impl_hashedRow l[i] i l.length g 0 c (path l i) wx hqi hin h60 hS.sl hps hS.cases.1 (path_length l i) (hK.below hx)
    have hdr : Below w.heap.size w w.drew := (Below.refl _ _).drew
    have hq0 := pcell hdr hq
    have hiki : (i : Int) < (l.length : Int) := by omega
    generalize wayAll (leafB l[i]) i l.length (path l i) = TT at *
    generalize path l i = Pt at *
    generalize l[i] = li at *
    clear hE hq hqi hlim h hps HPI hK
    go_enter Tryz.func72, Tryz.ntmps72
    go_wp2_with fail
    go_region_held3 (fun w' => (w'.cell? ⟨b, off + i * 2, none⟩ = some (.string li.1) ∧ w'.cell? ⟨b, off + i * 2 + 1, none⟩ = some (.string li.2)) ∧ Below w.heap.size w w') (first | exact ⟨hq0, hdr⟩ | (exact ⟨pcell hb3 (by first | exact ⟨g1, g2⟩), hB3⟩) | (exact ⟨pcell hb2 hq0, hB2⟩)) (first | (go_at_call 62; refine (HPT.out _ hdr).mono ?_; rintro e w2 ⟨gp, np, cpp, rfl, hOp, hb2⟩; have hB2 := hdr.trans (hb2.mono hdr.size); have hnp := hOp.1; subst hnp) | (go_at_call 71; have hg := pcell hb2 hq0; obtain ⟨g1, g2⟩ := hg; refine (HUP.out _ gp cpp _ hB2 hOp).mono ?_; rintro e w3 ⟨hb3, gr, nr, cr, vs, rfl, hTl, hnr, hV, hA⟩; have hB3 := hB2.trans (hb3.mono hB2.size)))
    all_goals
      have HF : Hid (HRow w TT (.returned (.slice (some ⟨gr, 0, none⟩) (nr + 1) cr)) w3) := ⟨hB3, gr, nr, cr, vs, rfl, hTl, hnr, ownV_mono hV hB2.size, hA.mono hB2.size⟩
      clear hV hA hOp hb3 hb2 HUP HPT
      go_wp2_with fail
      go_ret
      exact HF.out
  · have hE : heldOf l i n = [topB (l.length : Int) (inner l)] := by unfold heldOf; rw [dif_neg (fun h => hln h.1)]
    rw [hE]
    have hI := impl_innerOf b off l.length cap l w h hcap hlim hK
    have hii : innerI l = inner l := by unfold innerI; rw [if_pos h60]
    rw [hii] at hI
    have HI := Hid.mk' hI
    have HT := Hid.mk' (fun wx => impl_rootBytes (l.length : Int) (inner l) wx (WalkArith.wf_i64 (by omega)) (by have := inner_size l; omega))
    generalize inner l = x at *
    have hni : ¬ (l.length : Int) = (n : Int) := by omega
    clear hE hI hii h hlim hK
    go_enter Tryz.func72, Tryz.ntmps72
    go_wp2_with fail
    refine HI.out.mono ?_
    rintro e w1 ⟨rfl, hb1⟩
    go_wp2_with fail
    refine (HT.out _).mono ?_
    rintro e w2 ⟨g2, n2, c2, rfl, hO2, hb2⟩
    have hB2 := hb1.trans (hb2.mono hb1.size)
    have hba : Below w2.heap.size w2 (w2.alloc (.cells #[.slice (some ⟨g2, 0, none⟩) n2 c2] 22)) := (Below.refl _ _).alloc (Nat.le_refl _) _
    have HF : Hid (HRow w [topB (l.length : Int) x] (.returned (.slice (some ⟨w2.heap.size, 0, none⟩) 1 1)) (w2.alloc (.cells #[.slice (some ⟨g2, 0, none⟩) n2 c2] 22))) :=
      ⟨hB2.alloc hB2.size _, w2.heap.size, 0, 1, _, rfl, rfl, Nat.zero_le _, ownV_one w2 w.heap.size _ hB2.size, AllSl.one ⟨g2, n2, c2, rfl, (hO2.mono hb1.size).below hba⟩⟩
    clear hO2 HI HT hb2
    go_wp2_with fail
    go_ret
    exact HF.out
theorem heldOf_same {l : List Pr} {i : Nat} (hil : i < l.length) : heldOf l i l.length = wayAll (leafB l[i]) i l.length (path l i) := by unfold heldOf; rw [dif_pos ⟨rfl, hil⟩]
theorem heldOf_else {l : List Pr} {i n : Nat} (h : ¬ l.length = n) : heldOf l i n = [topB (l.length : Int) (inner l)] := by unfold heldOf; rw [dif_neg (fun e => h e.1)]
theorem wayTo_small (leaf : List UInt8) (S : List Bool) (P : List ByteArray) (hl : leaf.length ≤ 137438953472) (hp : ∀ s ∈ P, s.size ≤ 137438953472) (k : Nat) : ∀ t ∈ wayTo leaf S P k, t.length ≤ 137438953600 := by
  induction k with
  | zero => intro t ht; rw [wayTo, List.mem_singleton] at ht; subst ht; omega
  | succ k ih =>
    intro t ht
    rw [wayTo] at ht
    rcases List.mem_append.1 ht with h1 | h1
    · exact ih t h1
    · rw [List.mem_singleton.1 h1]
      have h2 : (upTo (dg leaf) S P k).size = 32 := ups_size _ _ (dg_size _)
      have h3 : (P.getD k ⟨#[]⟩).size ≤ 137438953472 := by
        by_cases hk : k < P.length
        · rw [List.getD_eq_getElem?_getD, List.getElem?_eq_getElem hk]; exact hp _ (List.getElem_mem hk)
        · rw [List.getD_eq_getElem?_getD, List.getElem?_eq_none (by omega)]; exact Nat.zero_le _
      unfold nodeAt
      split
      · rw [nodeB_length]; omega
      · rw [nodeB_length]; omega
theorem wayAll_small (leaf : List UInt8) (i n : Nat) (P : List ByteArray) (hl : leaf.length ≤ 137438953472) (hp : ∀ s ∈ P, s.size ≤ 137438953472) : ∀ t ∈ wayAll leaf i n P, t.length ≤ 137438953600 := by
  intro t ht
  unfold wayAll at ht
  rcases List.mem_append.1 ht with h1 | h1
  · exact wayTo_small leaf _ P hl hp _ t h1
  · rw [List.mem_singleton.1 h1]
    have h2 := topB_length (n : Int) (ups (dg leaf) ((sides i n).zip P))
    have h3 := ups_size (dg leaf) ((sides i n).zip P) (dg_size _)
    omega
theorem heldOf_small (l : List Pr) (i n : Nat) (hlim : ∀ p ∈ l, lim p) : ∀ t ∈ heldOf l i n, t.length ≤ 137438953600 := by
  unfold heldOf
  split
  · rename_i h
    have h1 := hlim _ (List.getElem_mem h.2)
    have h2 := leafB_length (l[i]'h.2)
    have h3 := h1.1
    have h4 := h1.2
    exact wayAll_small _ _ _ _ (by omega) (fun s hs => by rw [path_small l i s hs]; omega)
  · intro t ht
    rw [List.mem_singleton.1 ht]
    have := topB_length (l.length : Int) (inner l)
    have := inner_size l
    omega
set_option maxRecDepth 100000 in
set_option maxHeartbeats 4000000 in
theorem impl_partAt (b off cap : Nat) (l : List Pr) (p : Pr) (I N : Int) (pb po pcap : Nat) (P : List ByteArray) (w : World) (h : SlP w (some ⟨b, off, none⟩) l.length l) (hcap : l.length ≤ cap) (hks : ∀ p ∈ l, p.1.size ≤ 1099511627776) (hp : lim p) (hP : SlS w (some ⟨pb, po, none⟩) P.length P) (hPs : ∀ s ∈ P, s.size ≤ 137438953472) (hpc : P.length ≤ pcap) (hK : sha.KW w) :
    Calls Tryz.prog 39 #[.slice (some ⟨b, off, none⟩) l.length cap, .agg #[.string p.1, .string p.2], .int .i64 I, .int .i64 N, .slice (some ⟨pb, po, none⟩) P.length pcap] w (PAPost w (partAt l p I N P)) := by
  have hPm := hP.2.1
  have hlen := leafB_length p
  have hp1 := hp.1
  have hp2 := hp.2
  obtain ⟨w0, hw0⟩ : ∃ w0, w0 = w.alloc (.cells #[.string p.1, .string p.2] 49) := ⟨_, rfl⟩
  have hba : Below w.heap.size w w0 := by rw [hw0]; exact (Below.refl _ _).alloc (Nat.le_refl _) _
  have hc1 : w0.cell? ⟨w.heap.size, 0, none⟩ = some (.string p.1) := by rw [hw0]; simp
  have hc2 : w0.cell? ⟨w.heap.size, 1, none⟩ = some (.string p.2) := by rw [hw0]; simp
  have hl0 : w.heap.size < w0.heap.size := World.block_lt_of_cell? w0 _ hc1
  have hok0 := impl_pairsOk b off l.length cap l w0 (h.below hba) hks
  by_cases hok : pairsOk l = true
  · rw [hok] at hok0
    have HOK := Hid.mk' hok0
    clear hok0
    by_cases hpl : N ≤ 60 ∧ 0 ≤ I ∧ I < N
    · obtain ⟨n, hn⟩ : ∃ n : Nat, N = (n : Int) := ⟨N.toNat, by omega⟩
      subst hn
      obtain ⟨i, hi⟩ : ∃ i : Nat, I = (i : Int) := ⟨I.toNat, by omega⟩
      subst hi
      have hin : i < n := by omega
      have hn60 : n ≤ 60 := by omega
      have hdl := depth_le i n
      clear hpl
      by_cases hfit : P.length = depth i n
      · have hF := fun wx => impl_fits i n (some ⟨pb, po, none⟩) P.length pcap wx hin hn60 hPm
        rw [decide_eq_true hfit] at hF
        have HF := Hid.mk' hF
        have HUP : Hid (∀ wx, Below w.heap.size w wx → Calls Tryz.prog 71 #[.agg #[.string p.1, .string p.2], .int .i64 (i : Int), .int .i64 (n : Int), .slice (some ⟨pb, po, none⟩) P.length pcap] wx (HRow wx (wayAll (leafB p) i n P))) :=
          fun wx hx => impl_hashedRow p i n pb po pcap P wx hp hin hn60 (hP.below hx) hPs hpc hfit (hK.below hx)
        have HHO : Hid (∀ wx, Below w.heap.size w wx → Calls Tryz.prog 72 #[.slice (some ⟨b, off, none⟩) l.length cap, .int .i64 (i : Int), .int .i64 (n : Int)] wx (HRow wx (heldOf l i n))) :=
          fun wx hx => impl_hashedOf b off cap i n l wx (h.below hx) hcap hok hin hn60 (hK.below hx)
        have hTs := wayAll_small (leafB p) i n P (by omega) hPs
        have hHs := heldOf_small l i n (ok_lim' hok)
        have hTl := wayAll_length (leafB p) i n P
        have HK := Hid.mk' hK
        have hd : ∃ D, D + (heldOf l i n).length = (wayAll (leafB p) i n P).length ∧ 1 ≤ (heldOf l i n).length ∧ (∀ k a b, ((wayAll (leafB p) i n P).drop D)[k]? = some a → (heldOf l i n)[k]? = some b → NoneTo (((wayAll (leafB p) i n P).drop D).map ba) ((heldOf l i n).map ba) k → (k + 1 = (heldOf l i n).length ∨ isClash (ba a) (ba b) 32 = true) → partAt l p (i : Int) (n : Int) P = (ba a, ba b, isClash (ba a) (ba b) 32)) := by
          by_cases hln : l.length = n
          · subst hln
            have hpl : (path l i).length = P.length := by rw [path_length, hfit]
            rw [heldOf_same hin]
            refine ⟨0, by rw [wayAll_length, hTl, hpl]; omega, by rw [wayAll_length]; omega, fun k a b ha hb hno hor => ?_⟩
            rw [List.drop_zero] at ha hno
            exact partAt_same l p i l.length P hok hin hn60 rfl hin hfit k a b hno ha hb (by rw [hTl]; rw [wayAll_length, hpl] at hor; exact hor)
          · rw [heldOf_else hln]
            refine ⟨P.length + 1, by rw [hTl]; rfl, by simp, fun k a b ha hb hno hor => ?_⟩
            have hk0 : k = 0 := by have := (List.getElem?_eq_some_iff.1 hb).1; simpa using this
            subst hk0
            simp only [List.getElem?_cons_zero, Option.some.injEq] at hb
            subst hb
            rw [List.getElem?_drop, Nat.add_zero] at ha
            exact partAt_else l p i n P hok hin hn60 hln hfit (P.length + 1) a ha (by rw [hTl])
        obtain ⟨D, hD, hH1, hres⟩ := hd
        have HRES := Hid.mk' hres
        generalize wayAll (leafB p) i n P = T at *
        generalize heldOf l i n = H at *
        clear hF hfit hP hPs hK hdl h hks hres
        go_enter Tryz.func39, Tryz.ntmps39
        go_wp2_with fail
        rw [← hw0]
        clear hw0
        refine HOK.out.mono ?_
        rintro e w1 ⟨rfl, hb1⟩
        have hB1 := hba.trans (hb1.mono hba.size)
        have d1 := (hb1.cell (p := ⟨w.heap.size, 0, none⟩) hl0).trans hc1
        have d2 := (hb1.cell (p := ⟨w.heap.size, 1, none⟩) hl0).trans hc2
        have hl1 : w.heap.size < w1.heap.size := Nat.lt_of_lt_of_le hl0 hb1.size
        clear hc1 hc2 hl0 HOK hb1 hba
        go_wp2_with fail
        refine (HF.out _).mono ?_
        rintro e w2 ⟨rfl, hb2⟩
        have hB2 := hB1.trans (hb2.mono hB1.size)
        have d3 := (hb2.cell (p := ⟨w.heap.size, 0, none⟩) hl1).trans d1
        have d4 := (hb2.cell (p := ⟨w.heap.size, 1, none⟩) hl1).trans d2
        clear d1 d2 hl1 HF hb2 hB1
        go_wp2_with fail
        refine (HUP.out _ hB2).mono ?_
        rintro e w3 ⟨hb3, g1, n1, c1, vs1, rfl, hT1, hn1, hV1, hA1⟩
        have hB3 := hB2.trans (hb3.mono hB2.size)
        have HS1 := Hid.mk' (SlV.of hV1 hA1)
        have hcap1 : n1 + 1 ≤ c1 := ownV_cap hV1
        clear hV1 hA1 HUP d3 d4 hb3 hB2
        go_wp2_with fail
        refine (HHO.out _ hB3).mono ?_
        rintro e w4 ⟨hb4, g2, n2, c2, vs2, rfl, hH2, hn2, hV2, hA2⟩
        have hB4 := hB3.trans (hb4.mono hB3.size)
        have HS2 := Hid.mk' (SlV.of hV2 hA2)
        have hcap2 : n2 + 1 ≤ c2 := ownV_cap hV2
        have HS3 := Hid.mk' ((HS1.out.below hb4).drop D)
        have hDn : D + (n2 + 1) = n1 + 1 := by omega
        have hDc : ¬ c1 = D := by omega
        have hDi : ((n1 + 1 : Nat) : Int) - ((n2 + 1 : Nat) : Int) = (D : Int) := by omega
        have hDl : (D : Int) ≤ ((n1 + 1 : Nat) : Int) := by omega
        have hDcc : (D : Int) ≤ (c1 : Int) := by omega
        have hDs : n1 + 1 - D = n2 + 1 := by omega
        have eA : n1 - n2 = D := by omega
        have eB : n1 + 1 - (n2 + 1) = D := by omega
        have hDi2 : (n1 : Int) + 1 - ((n2 : Int) + 1) = (D : Int) := by omega
        have hs3 := HS3.out
        rw [Nat.zero_add] at hs3
        have HPS := Hid.mk' (impl_partStep g1 D (c1 - D) g2 0 c2 n2 (T.drop D) H w4 hs3 HS2.out (by rw [List.length_drop]; omega) hH2 (by omega) (by omega) hcap2 (fun t ht => Nat.le_trans (hTs t (List.mem_of_mem_drop ht)) (by omega)) (fun t ht => Nat.le_trans (hHs t ht) (by omega)) (HK.out.below hB4))
        have HS4 := Hid.mk' hs3
        clear HS1 hV2 hA2 HHO hb4 hB3 HS3 hs3
        go_wp2_with fail
        (try simp only [eA, eB, hDs])
        refine HPS.out.mono ?_
        rintro e w5 ⟨⟨k, a, b5, rfl, ha, hb, hkN, hno, hor⟩, hb5⟩
        have hB5 := hB4.trans (hb5.mono hB4.size)
        have HR := Hid.mk' (HRES.out k a b5 ha hb hno (by rw [hH2]; rcases hor with e | e; exact .inl (by omega); exact .inr e))
        obtain ⟨ga, na, ca, e1, v1⟩ := (HS4.out.below hb5) k a ha
        obtain ⟨gb, nb, cb, e2, v2⟩ := (HS2.out.below hb5) k b5 hb
        rw [Nat.zero_add] at e2
        have hal := hTs a (List.mem_of_mem_drop (List.mem_of_getElem? ha))
        have hbl := hHs b5 (List.mem_of_getElem? hb)
        have HIC := Hid.mk' (fun wx hx => impl_isClash (ba a) (ba b5) 32 wx (by rw [ba_size]; omega) (by rw [ba_size]; omega) (HK.out.below (w' := wx) hx))
        have hinh := last.On.inh w5.heap.size w5
        have f1 := last.On.cell e1 (World.block_lt_of_cell? _ _ e1)
        have f2 := last.On.cell e2 (World.block_lt_of_cell? _ _ e2)
        have hcv1 : ∀ x : last.On w5.heap.size w5, (convert 22 9 (.slice (some ⟨ga, 0, none⟩) na ca)).run Tryz.prog x.w = .ok (.string (ba a)) x.w := fun x => conv_slB (v1.below x.2) ca
        have hcv2 : ∀ x : last.On w5.heap.size w5, (convert 22 9 (.slice (some ⟨gb, 0, none⟩) nb cb)).run Tryz.prog x.w = .ok (.string (ba b5)) x.w := fun x => conv_slB (v2.below x.2) cb
        have hk1 : (k : Int) < ((n2 + 1 : Nat) : Int) := by omega
        clear HS4 HS2 HRES ha hb hno hor v1 v2 HPS hTs hHs e1 e2 hDi hDi2 eA eB hDs hDc hDn hDl hDcc hTl hD hT1 hH2
        generalize ba a = sa at *
        generalize ba b5 = sb at *
        go_wp2_with fail
        refine last.wp_region_on w5.heap.size (by kernel_rfl) (by kernel_rfl) ?_
        repeat (go_big_quiet_step ((fail)))
        refine wpQuiet_nil ?_
        intro w6 hw6
        obtain ⟨x6, hw6⟩ := hw6
        subst hw6
        have hB6 : Below w.heap.size w x6.w := hB5.trans (x6.2.mono hB5.size)
        have HIC6 := Hid.mk' (HIC.out x6.w hB6)
        clear f1 f2 hcv1 hcv2 HIC
        go_wp2_with fail
        refine HIC6.out.mono ?_
        rintro e w7 ⟨rfl, hb7⟩
        have hB7 := hB6.trans (hb7.mono hB6.size)
        go_wp2_with fail
        go_ret3
        exact pa_is HR.out hB7
      · have HR := Hid.mk' (partAt_unfit l p i n P hfit)
        have hF := fun wx => impl_fits i n (some ⟨pb, po, none⟩) P.length pcap wx hin hn60 hPm
        rw [decide_eq_false hfit] at hF
        have HF := Hid.mk' hF
        clear hF hfit hP hPs hK hdl h hks
        go_enter Tryz.func39, Tryz.ntmps39
        go_wp2_with fail
        rw [← hw0]
        clear hw0
        refine HOK.out.mono ?_
        rintro e w1 ⟨rfl, hb1⟩
        have hB1 := hba.trans (hb1.mono hba.size)
        clear hc1 hc2 hl0 HOK hb1
        go_wp2_with fail
        refine (HF.out _).mono ?_
        rintro e w2 ⟨rfl, hb2⟩
        have hB2 := hB1.trans (hb2.mono hB1.size)
        go_wp2_with fail
        go_ret3
        exact pa_is HR.out hB2
    · have HR := Hid.mk' (partAt_out l p I N P (fun hh => hpl ⟨hh.2.1.2, hh.2.2.1, by omega⟩))
      have HF := Hid.mk' (fun wx => impl_fitsNot I N (some ⟨pb, po, none⟩) P.length pcap wx hpl)
      clear hpl hP hPs hK h hks
      go_enter Tryz.func39, Tryz.ntmps39
      go_wp2_with fail
      rw [← hw0]
      clear hw0
      refine HOK.out.mono ?_
      rintro e w1 ⟨rfl, hb1⟩
      have hB1 := hba.trans (hb1.mono hba.size)
      clear hc1 hc2 hl0 HOK hb1
      go_wp2_with fail
      refine (HF.out _).mono ?_
      rintro e w2 ⟨rfl, hb2⟩
      have hB2 := hB1.trans (hb2.mono hB1.size)
      go_wp2_with fail
      go_ret3
      exact pa_is HR.out hB2
  · rw [Bool.not_eq_true] at hok
    rw [hok] at hok0
    have HOK := Hid.mk' hok0
    have HR := Hid.mk' (partAt_out l p I N P (fun hh => by rw [hok] at hh; cases hh.1))
    clear hok0 hok h hP hPs hks hK
    go_enter Tryz.func39, Tryz.ntmps39
    go_wp2_with fail
    rw [← hw0]
    clear hw0
    refine HOK.out.mono ?_
    rintro e w1 ⟨rfl, hb1⟩
    have hB1 := hba.trans (hb1.mono hba.size)
    clear hc1 hc2 hl0 HOK hb1
    go_wp2_with fail
    go_ret3
    exact pa_is HR.out hB1
end Go.Proofs.YtdebbgodhpcijaaGreatDoor.clash
