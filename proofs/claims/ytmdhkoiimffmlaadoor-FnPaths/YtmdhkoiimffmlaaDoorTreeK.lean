/- The program's check of a path. -/
import Derived.Test.YtmdhkoiimffmlaaDoorTreeG
namespace Go.Proofs.YtmdhkoiimffmlaaDoor.tree
open Go Go.RowKit Go.Proofs.YtmdhkoiimffmlaaDoor.base Go.Proofs.YtmdhkoiimffmlaaDoor.pairs Go.Proofs.YtmdhkoiimffmlaaDoor.puttext Go.Proofs.YtmdhkoiimffmlaaDoor.putnum
set_option linter.unusedVariables false
set_option linter.unusedSimpArgs false

/-! ### a row of slices of bytes that the call makes -/
theorem infoSl : (Tryd.prog.info? 22).map (fun i => (i.zero, i.size, i.bytes)) = some (some (.slice none 0 0), 1, 24) := by kernel_rfl
theorem slice_oneCell (a : Option Addr) (n c : Nat) : ∀ u ∈ [Value.slice a n c], u.oneCell' = true := by
  intro v hv; rw [List.mem_singleton.1 hv]; rfl
def OwnV (w : World) (base g n cap : Nat) (vs : List Value) : Prop := vs.length = n ∧ w.ownsRow base 22 1 (.slice (some ⟨g, 0, none⟩) n cap) n vs
theorem ownV_lt {w : World} {base g n cap : Nat} {vs : List Value} (h : OwnV w base g n cap vs) : base ≤ g ∧ g < w.heap.size := h.2.lt g rfl
theorem ownV_below {w w' : World} {base g n cap : Nat} {vs : List Value} (h : OwnV w base g n cap vs) (hb : Below w.heap.size w w') : OwnV w' base g n cap vs :=
  ⟨h.1, h.2.kept (row := none) ⟨hb.os, hb.tape, hb.output, hb.size, fun k hk _ => hb.block k hk⟩ (.inr (by simp [Value.ownBlock]))⟩
theorem ownV_at {w : World} {base g n cap : Nat} {vs : List Value} (h : OwnV w base g n cap vs) (i : Nat) (hi : i < vs.length) : w.cell? ⟨g, i, none⟩ = some vs[i] := by
  have hl := h.1
  rw [h.2.cellAt i (by omega)]
  simp [hi]
theorem ownV_val {w' : World} {base n : Nat} {vs : List Value} {v' : Value} (hl : vs.length = n) (h0 : ¬ v' = .slice none 0 0) (h : w'.ownsRow base 22 1 v' n vs) :
    ∃ g' cap', v' = .slice (some ⟨g', 0, none⟩) n cap' ∧ OwnV w' base g' n cap' vs := by
  rcases h.2 with ⟨h2, _⟩ | ⟨g', cap', cur, hv, _⟩
  · exact absurd h2 h0
  · subst hv
    exact ⟨g', cap', rfl, hl, h⟩
theorem ownV_one (w : World) (base : Nat) (v : Value) (hb : base ≤ w.heap.size) : OwnV (w.alloc (.cells #[v] 22)) base w.heap.size 1 1 [v] :=
  ⟨rfl, World.ownsRow_lit (base := base) (e := 22) (size := 1) w #[v] 1 hb (by decide) rfl⟩
theorem ownV_ne {w : World} {base base' g n cap gs ns cs : Nat} {vs : List Value} {S : List Bool} (h : OwnV w base g n cap vs) (hB : OwnB w base' gs ns cs S) : gs ≠ g := by
  intro e
  subst e
  obtain ⟨cur, hc⟩ := hB.block
  rcases h.2.2 with ⟨h', _⟩ | ⟨g', cap', cur', h', _, hg, _⟩
  · simp at h'
  · simp only [Value.slice.injEq, Option.some.injEq, Addr.mk.injEq, and_true, true_and] at h'
    obtain ⟨rfl, rfl⟩ := h'
    rw [hc] at hg
    simp at hg

/-- a row of slices comes back whose last one has the bytes T -/
def HUp (w : World) (T : List UInt8) (e : Ending) (w' : World) : Prop :=
  Below w.heap.size w w' ∧ ∃ g n cap gb nb cb : Nat, e = .returned (.slice (some ⟨g, 0, none⟩) (n + 1) cap) ∧ n ≤ 100 ∧ w'.cell? ⟨g, n, none⟩ = some (.slice (some ⟨gb, 0, none⟩) nb cb) ∧ Sl w' (some ⟨gb, 0, none⟩) nb T

set_option maxRecDepth 100000 in
set_option maxHeartbeats 4000000 in
theorem impl_hashedUp (p : Pr) (i n pb po pcap : Nat) (P : List ByteArray) (w : World) (hp : lim p) (hin : i < n) (h60 : n ≤ 60) (hP : SlS w (some ⟨pb, po, none⟩) P.length P) (hPs : ∀ s ∈ P, s.size ≤ 137438953472) (hpc : P.length ≤ pcap) (hfit : P.length = depth i n) (hK : sha.KW w) :
    Calls Tryd.prog 54 #[.agg #[.string p.1, .string p.2], .int .i64 (i : Int), .int .i64 (n : Int), .slice (some ⟨pb, po, none⟩) P.length pcap] w (HUp w (topB (n : Int) (ups (leafOf p) ((sides i n).zip P)))) := by
  obtain ⟨inf, hi, hz0, hz1, hz2⟩ := info_parts infoSl
  have hp1 := hp.1
  have hp2 := hp.2
  have hdl := depth_le i n
  have hP60 : P.length ≤ 60 := by omega
  have hsl : (sides i n).length = P.length := by rw [sides_length]; exact hfit.symm
  clear hfit hdl
  obtain ⟨w0, hw0⟩ : ∃ w0, w0 = w.alloc (.cells #[.string p.1, .string p.2] 38) := ⟨_, rfl⟩
  have hb0 : Below w.heap.size w w0 := by rw [hw0]; exact (Below.refl _ _).alloc (Nat.le_refl _) _
  have hc1 : w0.cell? ⟨w.heap.size, 0, none⟩ = some (.string p.1) := by rw [hw0]; simp
  have hc2 : w0.cell? ⟨w.heap.size, 1, none⟩ = some (.string p.2) := by rw [hw0]; simp
  have HLB := Hid.mk' (impl_leafBytes p w0 hp)
  have HLF : Hid (∀ wx, Below w.heap.size w wx → Calls Tryd.prog 24 #[.agg #[.string p.1, .string p.2]] wx fun e w' => e = .returned (.string (leafOf p)) ∧ Below wx.heap.size wx w') := fun wx hx => impl_leafOf p wx hp (hK.below hx)
  have HSD := Hid.mk' (fun wx => impl_sides i n wx hin h60)
  have hlz : (leafOf p).size = 32 := dg_size _
  have HK := Hid.mk' hK
  have HP := Hid.mk' hP
  generalize sides i n = S at *
  generalize leafOf p = lf at *
  clear hK hP
  go_enter Tryd.func54, Tryd.ntmps54
  go_wp2_with fail
  rw [← hw0]
  clear hw0
  refine HLB.out.mono ?_
  rintro e w1 ⟨g1, n1, c1, rfl, _, hb1⟩
  have hB1 : Below w.heap.size w w1 := hb0.trans (hb1.mono hb0.size)
  have hl0 : w.heap.size < w0.heap.size := World.block_lt_of_cell? w0 _ hc1
  have hd1 := (hb1.cell (p := ⟨w.heap.size, 0, none⟩) hl0).trans hc1
  have hd2 := (hb1.cell (p := ⟨w.heap.size, 1, none⟩) hl0).trans hc2
  have hV1 := ownV_one w1 w.heap.size (.slice (some ⟨g1, 0, none⟩) n1 c1) hB1.size
  have hba : Below w1.heap.size w1 (w1.alloc (.cells #[.slice (some ⟨g1, 0, none⟩) n1 c1] 22)) := (Below.refl _ _).alloc (Nat.le_refl _) _
  have hB2 : Below w.heap.size w (w1.alloc (.cells #[.slice (some ⟨g1, 0, none⟩) n1 c1] 22)) := hB1.alloc hB1.size _
  have HV1 := Hid.mk' hV1
  have hl1 : w.heap.size < w1.heap.size := Nat.lt_of_lt_of_le hl0 hb1.size
  have hd3 := (hba.cell (p := ⟨w.heap.size, 0, none⟩) hl1).trans hd1
  have hd4 := (hba.cell (p := ⟨w.heap.size, 1, none⟩) hl1).trans hd2
  clear hb1 hb0 hc1 hc2 hV1 HLB hd1 hd2
  go_wp2_with fail
  refine (HLF.out _ hB2).mono ?_
  rintro e w2 ⟨rfl, hb2⟩
  have hB3 := hB2.trans (hb2.mono hB2.size)
  have HV2 := Hid.mk' (ownV_below HV1.out hb2)
  clear hb2 hB2 HV1 HLF hd3 hd4 hba hB1 hl1 hl0
  go_wp2_with fail
  refine (HSD.out _).mono ?_
  rintro e w3 ⟨gs, ns, cs, rfl, hOB, hb3⟩
  have hns : ns = P.length := by have := hOB.1; omega
  subst hns
  have hB4 := hB3.trans (hb3.mono hB3.size)
  have HOB := Hid.mk' (hOB.mono (base' := w.heap.size) hB3.size)
  have HV3 := Hid.mk' (ownV_below HV2.out hb3)
  have hgw : g1 = g1 := rfl
  clear hOB hb3 HV2 HSD hB3
  go_wp2_with (at_builtin; fail)
  go_loopw [9, 10, 23] (fun hv xv kv wr => ∃ (k g c : Nat) (vs : List Value) (x : ByteArray), hv = .slice (some ⟨g, 0, none⟩) (k + 1) c ∧ xv = .string x ∧ kv = .int .i64 (k : Int) ∧ k ≤ P.length ∧ x = upTo lf S P k ∧ x.size = 32 ∧ OwnV wr w.heap.size g (k + 1) c vs ∧ OwnB wr w.heap.size gs P.length cs S ∧ Below w.heap.size w wr) (fun _ _ kv _ => P.length - (intOf kv).toNat)
  case atStart => exact ⟨0, w1.heap.size, 1, _, lf, rfl, rfl, rfl, Nat.zero_le _, rfl, hlz, HV3.out, HOB.out, hB4⟩
  case round =>
    obtain ⟨k, g, c, vs, x, rfl, rfl, rfl, hk, hx, hxz, hV, hOB, hB⟩ := hrel
    clear HV3 HOB hB4
    have hSl : S.length = P.length := by omega
    by_cases hlt : k < P.length
    · have hU := upTo_step lf S P k (by omega) hlt
      rw [← hx] at hU
      have cs1 := hOB.at k (by omega)
      have cp1 := (HP.out.below hB)
      have cp2 : wr.cell? ⟨pb, po + k, none⟩ = some (.string P[k]) := by
        obtain ⟨b', off', e, hc⟩ := cp1.2.2.2 (by omega)
        simp only [Option.some.injEq, Addr.mk.injEq, and_true] at e
        obtain ⟨rfl, rfl⟩ := e
        exact hc k hlt
      have hqs := hPs P[k] (List.getElem_mem hlt)
      have hki : (k : Int) < (P.length : Int) := by omega
      have hc3 : k + 1 + 1 ≤ maxLen := by unfold maxLen; omega
      have hc4 : (k + 1 + 1) * 24 ≤ 140737488355328 := by omega
      have hx9 : x.size ≤ 137438953472 := by omega
      generalize P[k] = q at *
      cases hsk : S[k]'(by omega) with
      | true =>
        rw [hsk] at hU cs1
        have HU : Hid (upTo lf S P (k + 1) = dg (nodeB x q)) := by show _ = _; rw [hU]; rfl
        have HN := Hid.mk' (impl_nodeBytes x q wr hx9 hqs)
        clear hU hx hsk cp1
        go_wp2_with (at_builtin; fail)
        refine HN.out.mono ?_
        rintro e w1 ⟨g1, n1, c1, rfl, hO1, hb1⟩
        clear HN cs1 cp2
        have hB1 : Below w.heap.size w w1 := hB.trans (hb1.mono hB.size)
        have hs1 := hB1.size
        have hV1 := ownV_below hV hb1
        have hOB1 := hOB.below hb1
        have hgl := ownV_lt hV
        have hgn : g1 ≠ g := by have := hO1.lt.1; omega
        have hne : gs ≠ g := ownV_ne hV hOB
        have hn1 : n1 ≤ 137438953600 := by have := hO1.1; have := nodeB_length x q; omega
        clear hV hOB hB
        go_wp2_with (at_builtin; refine wpList_append_own _ rfl (.tmp 42) (.tmp 44) 71 rfl w.heap.size 22 inf (.slice none 0 0) 1 24 Tryd.underlying71 hi hz0 hz1 hz2 rfl (by decide) _ _ _ rfl (hV1.2.alloc _) ⟨w1.heap.size, 0, none⟩ 1 1 [.slice (some ⟨g1, 0, none⟩) n1 c1] rfl rfl (cell_one_new _ _ _) (slice_oneCell _ _ _) hc3 hc4 (le_alloc _ _ hs1) ?_)
        intro v3 w3 hown hgrow hnn
        have hnn' : ¬ v3 = .slice none 0 0 := by simpa using hnn
        obtain ⟨g3, c3, hv, hV3⟩ := ownV_val (vs := vs ++ [.slice (some ⟨g1, 0, none⟩) n1 c1]) (n := k + 1 + 1) (by have := hV1.1; simp; omega) hnn' hown
        subst hv
        have hba : Below w1.heap.size w1 (w1.alloc (.cells #[.slice (some ⟨g1, 0, none⟩) n1 c1] 22)) := (Below.refl _ _).alloc (Nat.le_refl _) _
        have hB3 : Below w.heap.size w w3 := (hB1.alloc hs1 _).grown hgrow (le_alloc _ _ hs1) (fun k e => by simp [Value.ownBlock] at e; omega)
        have hOB3 : OwnB w3 w.heap.size gs P.length cs S := (hOB1.below hba).grown hgrow (fun e => by simp [Value.ownBlock] at e; omega)
        have hN3 : Sl w3 (some ⟨g1, 0, none⟩) n1 (nodeB x q) := (hO1.sl.below hba).grown hgrow (fun e => by simp [Value.ownBlock] at e; omega)
        have HD := Hid.mk' (sha.impl_digest g1 0 n1 c1 (nodeB x q) w3 hN3 (by omega) (HK.out.below hB3))
        have HV3 := Hid.mk' hV3
        have HOB3 := Hid.mk' hOB3
        clear hown hgrow hnn hnn' hV3 hOB3 hba hV1 hOB1 hO1 hN3 hb1 hB1 hne hgn
        go_wp2_with (at_builtin; fail)
        refine HD.out.mono ?_
        rintro e w4 ⟨rfl, hb4⟩
        have hB4 := hB3.trans (hb4.mono hB3.size)
        have HV4 := Hid.mk' (ownV_below HV3.out hb4)
        have HOB4 := Hid.mk' (HOB3.out.below hb4)
        clear HV3 HOB3 HD hb4 hB3
        go_wp2_with (at_builtin; fail)
        go_roundw
        case rel => exact ⟨k + 1, g3, c3, _, _, rfl, rfl, by go_num, by omega, by rw [HU.out]; rfl, dg_size _, HV4.out, HOB4.out, hB4⟩
        case measure => simp [intOf]; omega
      | false =>
        rw [hsk] at hU cs1
        have HU : Hid (upTo lf S P (k + 1) = dg (nodeB q x)) := by show _ = _; rw [hU]; rfl
        have HN := Hid.mk' (impl_nodeBytes x q wr hx9 hqs)
        have HM := Hid.mk' (fun wx => impl_nodeBytes q x wx hqs hx9)
        clear hU hx hsk cp1
        go_wp2_with (at_builtin; fail)
        refine HN.out.mono ?_
        rintro e w0' ⟨g0, n0, c0, rfl, _, hb0'⟩
        have cp3 := (hb0'.cell (p := ⟨pb, po + k, none⟩) (World.block_lt_of_cell? wr _ cp2)).trans cp2
        clear HN cs1 cp2
        go_wp2_with (at_builtin; fail)
        refine (HM.out _).mono ?_
        rintro e w1 ⟨g1, n1, c1, rfl, hO1', hb1'⟩
        have hO1 := hO1'.mono (base' := wr.heap.size) hb0'.size
        have hb1 := hb0'.trans (hb1'.mono hb0'.size)
        clear HM cp3 hO1' hb1' hb0'
        have hB1 : Below w.heap.size w w1 := hB.trans (hb1.mono hB.size)
        have hs1 := hB1.size
        have hV1 := ownV_below hV hb1
        have hOB1 := hOB.below hb1
        have hgl := ownV_lt hV
        have hgn : g1 ≠ g := by have := hO1.lt.1; omega
        have hne : gs ≠ g := ownV_ne hV hOB
        have hn1 : n1 ≤ 137438953600 := by have := hO1.1; have := nodeB_length q x; omega
        clear hV hOB hB
        go_wp2_with (at_builtin; refine wpList_append_own _ rfl (.tmp 42) (.tmp 44) 71 rfl w.heap.size 22 inf (.slice none 0 0) 1 24 Tryd.underlying71 hi hz0 hz1 hz2 rfl (by decide) _ _ _ rfl (hV1.2.alloc _) ⟨w1.heap.size, 0, none⟩ 1 1 [.slice (some ⟨g1, 0, none⟩) n1 c1] rfl rfl (cell_one_new _ _ _) (slice_oneCell _ _ _) hc3 hc4 (le_alloc _ _ hs1) ?_)
        intro v3 w3 hown hgrow hnn
        have hnn' : ¬ v3 = .slice none 0 0 := by simpa using hnn
        obtain ⟨g3, c3, hv, hV3⟩ := ownV_val (vs := vs ++ [.slice (some ⟨g1, 0, none⟩) n1 c1]) (n := k + 1 + 1) (by have := hV1.1; simp; omega) hnn' hown
        subst hv
        have hba : Below w1.heap.size w1 (w1.alloc (.cells #[.slice (some ⟨g1, 0, none⟩) n1 c1] 22)) := (Below.refl _ _).alloc (Nat.le_refl _) _
        have hB3 : Below w.heap.size w w3 := (hB1.alloc hs1 _).grown hgrow (le_alloc _ _ hs1) (fun k e => by simp [Value.ownBlock] at e; omega)
        have hOB3 : OwnB w3 w.heap.size gs P.length cs S := (hOB1.below hba).grown hgrow (fun e => by simp [Value.ownBlock] at e; omega)
        have hN3 : Sl w3 (some ⟨g1, 0, none⟩) n1 (nodeB q x) := (hO1.sl.below hba).grown hgrow (fun e => by simp [Value.ownBlock] at e; omega)
        have HD := Hid.mk' (sha.impl_digest g1 0 n1 c1 (nodeB q x) w3 hN3 (by omega) (HK.out.below hB3))
        have HV3 := Hid.mk' hV3
        have HOB3 := Hid.mk' hOB3
        clear hown hgrow hnn hnn' hV3 hOB3 hba hV1 hOB1 hO1 hN3 hb1 hB1 hne hgn
        go_wp2_with (at_builtin; fail)
        refine HD.out.mono ?_
        rintro e w4 ⟨rfl, hb4⟩
        have hB4 := hB3.trans (hb4.mono hB3.size)
        have HV4 := Hid.mk' (ownV_below HV3.out hb4)
        have HOB4 := Hid.mk' (HOB3.out.below hb4)
        clear HV3 HOB3 HD hb4 hB3
        go_wp2_with (at_builtin; fail)
        go_roundw
        case rel => exact ⟨k + 1, g3, c3, _, _, rfl, rfl, by go_num, by omega, by rw [HU.out]; rfl, dg_size _, HV4.out, HOB4.out, hB4⟩
        case measure => simp [intOf]; omega
    · have HE : Hid (x = ups lf (S.zip P)) := by show _ = _; rw [hx]; exact upTo_all _ _ _ _ (by omega)
      have hki : ¬ (k : Int) < (P.length : Int) := by omega
      have HR := Hid.mk' (impl_rootBytes (n : Int) x wr (WalkArith.wf_i64 (by omega)) (by omega))
      have hc3 : k + 1 + 1 ≤ maxLen := by unfold maxLen; omega
      have hc4 : (k + 1 + 1) * 24 ≤ 140737488355328 := by omega
      have hgl := ownV_lt hV
      clear hx hOB
      go_wp2_with (at_builtin; fail)
      refine HR.out.mono ?_
      rintro e w1 ⟨g1, n1, c1, rfl, hO1, hb1⟩
      have hB1 : Below w.heap.size w w1 := hB.trans (hb1.mono hB.size)
      have hs1 := hB1.size
      have hV1 := ownV_below hV hb1
      have hgn : g1 ≠ g := by have := hO1.lt.1; omega
      clear hV hB HR
      go_wp2_with (at_builtin; refine wpList_append_own _ rfl (.tmp 49) (.tmp 53) 71 rfl w.heap.size 22 inf (.slice none 0 0) 1 24 Tryd.underlying71 hi hz0 hz1 hz2 rfl (by decide) _ _ _ rfl (hV1.2.alloc _) ⟨w1.heap.size, 0, none⟩ 1 1 [.slice (some ⟨g1, 0, none⟩) n1 c1] rfl rfl (cell_one_new _ _ _) (slice_oneCell _ _ _) hc3 hc4 (le_alloc _ _ hs1) ?_)
      intro v3 w3 hown hgrow hnn
      have hnn' : ¬ v3 = .slice none 0 0 := by simpa using hnn
      obtain ⟨g3, c3, hv, hV3⟩ := ownV_val (vs := vs ++ [.slice (some ⟨g1, 0, none⟩) n1 c1]) (n := k + 1 + 1) (by have := hV1.1; simp; omega) hnn' hown
      subst hv
      have hba : Below w1.heap.size w1 (w1.alloc (.cells #[.slice (some ⟨g1, 0, none⟩) n1 c1] 22)) := (Below.refl _ _).alloc (Nat.le_refl _) _
      have hB3 : Below w.heap.size w w3 := (hB1.alloc hs1 _).grown hgrow (le_alloc _ _ hs1) (fun k e => by simp [Value.ownBlock] at e; omega)
      have hN3 : Sl w3 (some ⟨g1, 0, none⟩) n1 (topB (n : Int) x) := (hO1.sl.below hba).grown hgrow (fun e => by simp [Value.ownBlock] at e; omega)
      have hlast : w3.cell? ⟨g3, k + 1, none⟩ = some (.slice (some ⟨g1, 0, none⟩) n1 c1) := by
        have hvl := hV1.1
        have := ownV_at hV3 (k + 1) (by simp; omega)
        rw [this]
        congr 1
        rw [List.getElem_append_right (by omega)]
        simp [hvl]
      have HF : Hid (HUp w (topB (n : Int) (ups lf (S.zip P))) (.returned (.slice (some ⟨g3, 0, none⟩) (k + 1 + 1) c3)) w3) := by
        rw [← HE.out]; exact ⟨hB3, g3, k + 1, c3, g1, n1, c1, rfl, by omega, hlast, hN3⟩
      clear hown hgrow hnn hnn' hV3 hba hV1 hO1 hN3 hb1 hB1 hgn hlast hB3
      go_wp2_with (at_builtin; fail)
      go_ret
      exact HF.out
end Go.Proofs.YtmdhkoiimffmlaaDoor.tree
