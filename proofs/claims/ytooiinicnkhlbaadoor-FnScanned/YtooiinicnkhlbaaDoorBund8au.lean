/- The specification's records, read of bytes. -/
import Derived.Test.YtooiinicnkhlbaaDoorBund8an
import Derived.Test.YtooiinicnkhlbaaDoorBund8at
namespace Go.Proofs.YtooiinicnkhlbaaDoor.recs
open Go Go.RowKit Go.Proofs.YtooiinicnkhlbaaDoor.base Go.Proofs.YtooiinicnkhlbaaDoor.pairs Go.Proofs.YtooiinicnkhlbaaDoor.ords Go.Proofs.YtooiinicnkhlbaaDoor.putnum Go.Proofs.YtooiinicnkhlbaaDoor.puttext Go.Proofs.YtooiinicnkhlbaaDoor.getnum Go.Proofs.YtooiinicnkhlbaaDoor.gettext Go.Proofs.YtooiinicnkhlbaaDoor.gettexts
set_option linter.unusedVariables false
set_option linter.unusedSimpArgs false

def resR (r : Option (Rc × Nat)) : Rc := match r with | none => (0, 0, []) | some x => x.1
def resQ (at_ : Int) (r : Option (Rc × Nat)) : Int := match r with | none => at_ | some x => (x.2 : Int)
/-- what GetRec answers -/
def RecPost (w : World) (at_ : Int) (r : Option (Rc × Nat)) (e : Ending) (w' : World) : Prop :=
  ∃ v, e = .returned (.tuple #[.agg #[.int .i64 (resR r).1, .int .i64 (resR r).2.1, v], .int .i64 (resQ at_ r), .bool r.isSome]) ∧ OwnV w' w.heap.size v (resR r).2.2 ∧ Below w.heap.size w w'
theorem recPost_none {w w' : World} {at_ : Int} {r : Option (Rc × Nat)} (hr : r = none) (hb : Below w.heap.size w w') : RecPost w at_ r (.returned (.tuple #[.agg #[.int .i64 0, .int .i64 0, .slice none 0 0], .int .i64 at_, .bool false])) w' := by
  subst hr; exact ⟨_, rfl, ownV_nil _ _, hb⟩
theorem recPost_some {w w' : World} {at_ q : Int} {Q : Nat} {r : Option (Rc × Nat)} {x : Rc} {v : Value} (hr : r = some (x, Q)) (hq : q = (Q : Int)) (hv : OwnV w' w.heap.size v x.2.2) (hb : Below w.heap.size w w') : RecPost w at_ r (.returned (.tuple #[.agg #[.int .i64 x.1, .int .i64 x.2.1, v], .int .i64 q, .bool true])) w' := by
  subst hr hq; exact ⟨_, rfl, hv, hb⟩
/-- the cells of a record's box, written over -/
theorem boxR_set {X : Nat} {k t : Int} {v : Value} {w : World} (h : BoxR X k t v w) (a b c : Value) :
    ((((w.setCell ⟨X, 0, none⟩ a).setCell ⟨X, 1, none⟩ b).setCell ⟨X, 2, none⟩ c).heap[X]? = some (.cells #[a, b, c] 26 (0, 0))) ∧ w.grownBy (((w.setCell ⟨X, 0, none⟩ a).setCell ⟨X, 1, none⟩ b).setCell ⟨X, 2, none⟩ c) (some X) := by
  have h0 : w.heap[X]? = some (.cells #[.int .i64 k, .int .i64 t, v] 26 (0, 0)) := h
  have s0 := set_cur h0 0 a
  have s1 := set_cur s0.1 1 b
  have s2 := set_cur s1.1 2 c
  exact ⟨s2.1, grownBy_trans (grownBy_trans s0.2 s1.2) s2.2⟩
theorem boxR_ops {X : Nat} {k t : Int} {v : Value} {w : World} (h : BoxR X k t v w) (c : Value) : BoxR X k t c (w.setCell ⟨X, 2, none⟩ c) ∧ w.grownBy (w.setCell ⟨X, 2, none⟩ c) (some X) := by
  have h0 : w.heap[X]? = some (.cells #[.int .i64 k, .int .i64 t, v] 26 (0, 0)) := h
  have s0 := set_cur h0 2 c
  exact ⟨s0.1, s0.2⟩
theorem BoxR.fz {X : Nat} {k t : Int} {v : Value} {w : World} (h : BoxR X k t v w) (j : Nat) : w.frozen? ⟨X, j, none⟩ = false := by unfold BoxR at h; simp [World.frozen?, h]
theorem getRec_no1 {bs : List UInt8} {p : Int} (h : getNum bs p = none) : getRec bs p = none := by unfold getRec; rw [h]
theorem getRec_no2 {bs : List UInt8} {P n k : Nat} (h : getNum bs (P : Int) = some (n, k)) (hl : bs.length < P + k + n + 4) : getRec bs (P : Int) = none := by unfold getRec; rw [h]; simp only [Int.toNat_natCast]; rw [if_pos hl]
theorem getRec_no3 {bs : List UInt8} {P n k : Nat} (h : getNum bs (P : Int) = some (n, k)) (hl : ¬ bs.length < P + k + n + 4) (hs : ¬ (bs.drop (P + k + n)).take 4 = sum4 ((bs.drop (P + k)).take n)) : getRec bs (P : Int) = none := by unfold getRec; rw [h]; simp only [Int.toNat_natCast]; rw [if_neg hl, if_neg hs]
theorem getRec_body {bs : List UInt8} {P n k : Nat} (h : getNum bs (P : Int) = some (n, k)) (hl : ¬ bs.length < P + k + n + 4) (hs : (bs.drop (P + k + n)).take 4 = sum4 ((bs.drop (P + k)).take n)) : getRec bs (P : Int) = (readBody ((bs.drop (P + k)).take n)).map fun r => (r, P + k + n + 4) := by
  unfold getRec; rw [h]; simp only [Int.toNat_natCast]; rw [if_neg hl, if_pos hs]
  cases readBody ((bs.drop (P + k)).take n) <;> rfl
theorem sl_part {w : World} {b off len : Nat} {bs : List UInt8} (h : Sl w (some ⟨b, off, none⟩) len bs) (p n : Nat) (hp : p + n ≤ len) : Sl w (some ⟨b, off + p, none⟩) n ((bs.drop p).take n) := by
  have hat := h.at
  have hl := h.1
  refine ⟨by simp; omega, by have := h.2.1; omega, fun _ => ⟨b, off + p, rfl, fun i hi => ?_⟩⟩
  have hi' : p + i < bs.length := by simp at hi; omega
  rw [Nat.add_assoc, hat (p + i) hi', List.getElem_take, List.getElem_drop]

set_option maxRecDepth 100000 in
set_option maxHeartbeats 4000000 in
theorem spec_getRec (a : Option Addr) (len cap : Nat) (at_ : Int) (bs : List UInt8) (w : World) (h : Sl w a len bs) (hcap : len ≤ cap) (hsz : len ≤ 1099511627776) (hat : (Lit.int .i64 at_).wf = true) :
    Calls Tryd.prog 19 #[.slice a len cap, .int .i64 at_] w fun e w' => RecPost w at_ (getRec bs at_) e w' := by
  obtain ⟨i0, hi, hz0, hz1, hz2⟩ := info_parts info8
  have hl := h.1
  obtain ⟨W, hW⟩ : ∃ W, W = (w.alloc (.cells #[.int .i64 0, .int .i64 0, .slice none 0 0] 26)).alloc (.cells #[.int .i64 0, .int .i64 0, .slice none 0 0] 26) := ⟨_, rfl⟩
  have hba0 : Below w.heap.size w (w.alloc (.cells #[.int .i64 0, .int .i64 0, .slice none 0 0] 26)) := (Below.refl _ _).alloc (Nat.le_refl _) _
  have hB : Below w.heap.size w W := by rw [hW]; exact hba0.alloc hba0.size _
  have hR : BoxR w.heap.size 0 0 (.slice none 0 0) W := by rw [hW]; exact (boxR_new w 0 0 (.slice none 0 0)).below ((Below.refl _ _).alloc (Nat.le_refl _) _)
  have hN : BoxR (w.heap.size + 1) 0 0 (.slice none 0 0) W := by
    rw [hW]
    have := boxR_new (w.alloc (.cells #[.int .i64 0, .int .i64 0, .slice none 0 0] 26)) 0 0 (.slice none 0 0)
    have e : (w.alloc (.cells #[.int .i64 0, .int .i64 0, .slice none 0 0] 26)).heap.size = w.heap.size + 1 := by simp
    rwa [e] at this
  have HW := Hid.mk' hW.symm
  have HG := Hid.mk' (spec_get a len cap at_ bs W (h.below hB) hat)
  clear hW hba0
  obtain ⟨r0, r1, r2⟩ := hR.cells
  obtain ⟨n0, n1, n2⟩ := hN.cells
  have f0 := hR.fz 0
  have f1 := hR.fz 1
  have f2 := hR.fz 2
  rcases hG : getNum bs at_ with _ | ⟨n, k⟩
  · have HF := Hid.mk' (getRec_no1 hG)
    rw [hG, numRet] at HG
    clear hG
    obtain ⟨z, zg⟩ := boxR_set hR (.int .i64 0) (.int .i64 0) (.slice none 0 0)
    have hz : BoxR w.heap.size 0 0 (.slice none 0 0) _ := z
    have hzc := hz.cells
    have HBz := Hid.mk' (hB.grown zg hB.size (fun j e => by cases e; exact Nat.le_refl _))
    go_enter Tryd.func19, Tryd.ntmps19
    go_wp2_with fail
    rw [HW.out]
    refine HG.out.mono ?_
    rintro e w1 ⟨rfl, hw1⟩
    subst hw1
    go_wp2_with fail
    refine bodyPost_ret (v := .tuple #[.agg #[.int .i64 0, .int .i64 0, .slice none 0 0], .int .i64 at_, .bool false]) ?_ rfl (recPost_none HF.out HBz.out)
    simp [results, Tryd.results19, go_sem, hzc.1, hzc.2.1, hzc.2.2]
  · obtain ⟨h0, hk1, hk5, hle, hn9⟩ := getNum_some hG
    obtain ⟨P, rfl⟩ := Int.eq_ofNat_of_zero_le h0
    simp only [Int.toNat_natCast] at hle
    rw [hG, numRet] at HG
    rw [show (P : Int) + (k : Int) = ((P + k : Nat) : Int) by omega] at HG
    by_cases hbig : bs.length < P + k + n + 4
    · have HF := Hid.mk' (getRec_no2 hG hbig)
      clear hG
      obtain ⟨z, zg⟩ := boxR_set hR (.int .i64 0) (.int .i64 0) (.slice none 0 0)
      have hz : BoxR w.heap.size 0 0 (.slice none 0 0) _ := z
      have hzc := hz.cells
      have HBz := Hid.mk' (hB.grown zg hB.size (fun j e => by cases e; exact Nat.le_refl _))
      generalize P + k = p at *
      go_enter Tryd.func19, Tryd.ntmps19
      go_wp2_with fail
      rw [HW.out]
      refine HG.out.mono ?_
      rintro e w1 ⟨rfl, hw1⟩
      subst hw1
      go_wp2_with fail
      refine bodyPost_ret (v := .tuple #[.agg #[.int .i64 0, .int .i64 0, .slice none 0 0], .int .i64 (P : Int), .bool false]) ?_ rfl (recPost_none HF.out HBz.out)
      simp [results, Tryd.results19, go_sem, hzc.1, hzc.2.1, hzc.2.2]
    · obtain ⟨b, off, ha, _⟩ := h.2.2 (by omega)
      subst ha
      have HNO3 : Hid (¬ (bs.drop (P + k + n)).take 4 = sum4 ((bs.drop (P + k)).take n) → getRec bs (P : Int) = none) := fun hs => getRec_no3 hG hbig hs
      have HBD : Hid ((bs.drop (P + k + n)).take 4 = sum4 ((bs.drop (P + k)).take n) → getRec bs (P : Int) = (readBody ((bs.drop (P + k)).take n)).map fun r => (r, P + k + n + 4)) := fun hs => getRec_body hG hbig hs
      have hpart := sl_part (h.below hB) (P + k) n (by omega)
      have hcv : ∀ wx c, Below w.heap.size w wx → (convert 22 9 (.slice (some ⟨b, off + (P + k + n), none⟩) 4 c)).run Tryd.prog wx = .ok (.string (cut bs (P + k + n) 4)) wx := fun wx c hx => conv_cut (w := wx) (h.below hx) (p := P + k + n) (n := 4) (by omega) c
      generalize hBY : (bs.drop (P + k)).take n = body at *
      have hbl : body.length = n := by rw [← hBY]; simp; omega
      generalize hp : P + k = p at *
      have hO1 := own_made W w.heap.size hB.size
      have hB1 : Below w.heap.size w (W.alloc (.cells #[] 5)) := hB.alloc hB.size _
      have hR1 := hR.below ((Below.refl _ W).alloc (Nat.le_refl _) (.cells #[] 5))
      have hN1 := hN.below ((Below.refl _ W).alloc (Nat.le_refl _) (.cells #[] 5))
      have hpa := hpart.below ((Below.refl _ W).alloc (Nat.le_refl _) (.cells #[] 5))
      have HSL := Hid.mk' (sl_cells hpa)
      have hl2 : (byteVals body).length = n * 1 := by rw [byteVals_length]; omega
      have hc3 : 0 + n ≤ maxLen := by unfold maxLen; omega
      have hc4 : (0 + n) * 1 ≤ 140737488355328 := by omega
      have hWs := hR.lt
      have hWs2 := hN.lt
      have HCV := Hid.mk' hcv
      have hi1 : (p : Int) ≤ (cap : Int) := by omega
      have hcp : ¬ cap = p := by omega
      clear hG hcv hpart hpa r0 r1 r2 n0 n1 n2 f0 f1 f2 hBY
      go_enter Tryd.func19, Tryd.ntmps19
      go_wp2_with (at_builtin; fail)
      rw [HW.out]
      refine HG.out.mono ?_
      rintro e w1 ⟨rfl, hw1⟩
      subst hw1
      go_wp2_with (at_builtin; refine wpList_append_own _ rfl (.tmp 42) (.tmp 48) 22 rfl w.heap.size 5 i0 (.int .u8 0) 1 1 Tryd.underlying22 hi hz0 hz1 hz2 rfl (by decide) _ _ _ rfl hO1.2 ⟨b, off + p, none⟩ n (cap - p) (byteVals body) ?e1 hl2 HSL.out (byteVals_oneCell _) hc3 hc4 hB1.size ?_)
      case e1 => simp [Act.eval]
      intro v2 w2 hown2 hgrow2 hnn2
      have hnn' : ¬ v2 = .slice none 0 0 := by simpa using hnn2
      obtain ⟨g2, cp2, hv2, hO2⟩ := own_cat (n := 0) (bs := []) (ns := body) rfl hbl hnn' (by simpa using hown2)
      rw [Nat.zero_add] at hv2 hO2
      rw [List.nil_append] at hO2
      subst hv2
      have hgr : (w1.alloc (.cells #[] 5)).grownBy w2 (some w1.heap.size) := hgrow2
      have hB2 : Below w.heap.size w w2 := hB1.grown hgr hB1.size (fun j e => by cases e; omega)
      have hR2 := hR1.grown hgr (by simp; omega)
      have hN2 := hN1.grown hgr (by simp; omega)
      have hg2 := hO2.lt
      have hmx := hO2.max
      have hSB := hO2.sl
      have HG2 : Hid (∀ q : Nat, q ≤ 1099511627776 → Calls Tryd.prog 52 #[.slice (some ⟨g2, 0, none⟩) n cp2, .int .i64 (q : Int)] w2 fun e w' => e = .returned (numRet (q : Int) (getNum body (q : Int))) ∧ w' = w2) := fun q hq => spec_get (some ⟨g2, 0, none⟩) n cp2 (q : Int) body w2 hSB (WalkArith.wf_i64 (by omega))
      have hinh := last.On.inh w2.heap.size w2
      have hcall : ∀ x : last.On w2.heap.size w2, Calls Tryd.prog 53 #[.slice (some ⟨g2, 0, none⟩) n cp2] x.w fun e w' => e = .returned (.string ⟨(sha.digest body).toArray⟩) ∧ ∃ y : last.On w2.heap.size w2, w' = y.w := fun x => last.Calls.on x (Nat.le_refl _) (sha.spec_digest g2 0 n cp2 body x.w (hSB.below x.2) (by omega))
      have hcvx : ∀ (x : last.On w2.heap.size w2) (c : Nat), (convert 22 9 (.slice (some ⟨b, off + (p + n), none⟩) 4 c)).run Tryd.prog x.w = .ok (.string (cut bs (p + n) 4)) x.w := fun x c => HCV.out x.w c (hB2.trans (x.2.mono hB2.size))
      have hcs : (4 : Int) ≤ ((⟨(sha.digest body).toArray⟩ : ByteArray).size : Int) := by
        have : (⟨(sha.digest body).toArray⟩ : ByteArray).size = 32 := by show (sha.digest _).toArray.size = 32; simp [sha.digest_length]
        omega
      have HDC := Hid.mk' (digest_cut body)
      generalize hD : (⟨(sha.digest body).toArray⟩ : ByteArray) = D at *
      clear hD hown2 hgrow2 hnn2 hnn' hgr hR1 hN1 hB1 HSL hl2 hO1 HCV HG HW hR hN hO2
      have HN1 := Hid.mk' (HG2.out 0 (by omega))
      rcases hK : getNum body ((0 : Nat) : Int) with _ | ⟨kd, ka⟩
      · have HF : Hid (getRec bs (P : Int) = none) := by
          show _ = _
          by_cases hs : (bs.drop (p + n)).take 4 = sum4 body
          · rw [HBD.out hs]
            have : readBody body = none := by unfold readBody; rw [show (0 : Int) = ((0 : Nat) : Int) from rfl, hK]
            rw [this]; rfl
          · exact HNO3.out hs
        rw [hK, numRet] at HN1
        rw [show ((0 : Nat) : Int) = 0 from rfl] at HN1
        clear hK HBD HNO3 HG2
        go_wp2_with fail
        refine HN1.out.mono ?_
        rintro e w3 ⟨rfl, hw3⟩
        subst hw3
        go_wp2_with fail
        refine HN1.out.mono ?_
        rintro e w3 ⟨rfl, hw3⟩
        subst hw3
        go_wp2_with fail
        refine last.wp_region_on w3.heap.size (by kernel_rfl) (by kernel_rfl) ?_
        repeat (go_big_quiet_step ((go_at_call 53; exact hcall _)))
        refine wpQuiet_nil ?_
        intro w5 hw5
        obtain ⟨x5, hw5⟩ := hw5
        have hb5 : Below w3.heap.size w3 w5 := by rw [hw5]; exact x5.2
        clear hw5 x5 hinh hcall hcvx
        have hB5 := hB2.trans (hb5.mono hB2.size)
        have hR5 := hR2.below hb5
        have hN5 := hN2.below hb5
        obtain ⟨z, zg⟩ := boxR_set hR5 (.int .i64 0) (.int .i64 0) (.slice none 0 0)
        have hz : BoxR w.heap.size 0 0 (.slice none 0 0) _ := z
        have hzc := hz.cells
        have HBz := Hid.mk' (hB5.grown zg hB5.size (fun j e => by cases e; exact Nat.le_refl _))
        obtain ⟨n0, n1, n2⟩ := hN5.cells
        obtain ⟨r0, r1, r2⟩ := hR5.cells
        have f0 := hR5.fz 0
        have f1 := hR5.fz 1
        have f2 := hR5.fz 2
        go_wp2_with fail
        refine bodyPost_ret (v := .tuple #[.agg #[.int .i64 0, .int .i64 0, .slice none 0 0], .int .i64 (P : Int), .bool false]) ?_ rfl (recPost_none HF.out HBz.out)
        simp [results, Tryd.results19, go_sem, hzc.1, hzc.2.1, hzc.2.2]
      · have hks := getNum_some hK
        simp only [Int.toNat_natCast] at hks
        rw [hK, numRet] at HN1
        rw [show ((0 : Nat) : Int) = 0 from rfl] at HN1 hK
        rw [show (0 : Int) + (ka : Int) = ((ka : Nat) : Int) by omega] at HN1
        have HN2 := Hid.mk' (HG2.out ka (by omega))
        rcases hT : getNum body (ka : Int) with _ | ⟨tx, kb⟩
        · have HF : Hid (getRec bs (P : Int) = none) := by
            show _ = _
            by_cases hs : (bs.drop (p + n)).take 4 = sum4 body
            · rw [HBD.out hs]
              have : readBody body = none := by unfold readBody; rw [hK]; simp only []; rw [hT]
              rw [this]; rfl
            · exact HNO3.out hs
          rw [hT, numRet] at HN2
          clear hK hT HBD HNO3 HG2
          go_wp2_with fail
          refine HN1.out.mono ?_
          rintro e w3 ⟨rfl, hw3⟩
          subst hw3
          go_wp2_with fail
          refine HN2.out.mono ?_
          rintro e w3 ⟨rfl, hw3⟩
          subst hw3
          go_wp2_with fail
          refine last.wp_region_on w3.heap.size (by kernel_rfl) (by kernel_rfl) ?_
          repeat (go_big_quiet_step ((go_at_call 53; exact hcall _)))
          refine wpQuiet_nil ?_
          intro w5 hw5
          obtain ⟨x5, hw5⟩ := hw5
          have hb5 : Below w3.heap.size w3 w5 := by rw [hw5]; exact x5.2
          clear hw5 x5 hinh hcall hcvx
          have hB5 := hB2.trans (hb5.mono hB2.size)
          have hR5 := hR2.below hb5
          have hN5 := hN2.below hb5
          obtain ⟨z, zg⟩ := boxR_set hR5 (.int .i64 0) (.int .i64 0) (.slice none 0 0)
          have hz : BoxR w.heap.size 0 0 (.slice none 0 0) _ := z
          have hzc := hz.cells
          have HBz := Hid.mk' (hB5.grown zg hB5.size (fun j e => by cases e; exact Nat.le_refl _))
          obtain ⟨n0, n1, n2⟩ := hN5.cells
          obtain ⟨r0, r1, r2⟩ := hR5.cells
          have f0 := hR5.fz 0
          have f1 := hR5.fz 1
          have f2 := hR5.fz 2
          go_wp2_with fail
          refine bodyPost_ret (v := .tuple #[.agg #[.int .i64 0, .int .i64 0, .slice none 0 0], .int .i64 (P : Int), .bool false]) ?_ rfl (recPost_none HF.out HBz.out)
          simp [results, Tryd.results19, go_sem, hzc.1, hzc.2.1, hzc.2.2]
        · have hts := getNum_some hT
          simp only [Int.toNat_natCast] at hts
          rw [hT, numRet] at HN2
          rw [show (ka : Int) + (kb : Int) = ((ka + kb : Nat) : Int) by omega] at HN2
          by_cases hs : (bs.drop (p + n)).take 4 = sum4 body
          · have heq : cut bs (p + n) 4 = D.extract 0 4 := by
              apply bytes_ext
              rw [cut_data, HDC.out, hs]
            have hrb := HBD.out hs
            rw [heq] at hcvx
            clear HBD HNO3 HG2 HDC hs heq
            by_cases hr : n ≤ ka + kb
            · have HRB : Hid (getRec bs (P : Int) = (okRec ((kd : Int), (tx : Int), [])).map fun r => (r, p + n + 4)) := by
                show _ = _
                rw [hrb]
                congr 1
                unfold readBody; rw [hK]; simp only []; rw [hT]; simp only []; rw [if_pos (by omega)]
              have hri : ¬ ((ka + kb : Nat) : Int) < (n : Int) := by omega
              generalize hrr : ka + kb = r at *
              have HRK : Hid (∀ wx, Calls Tryd.prog 13 #[.agg #[.int .i64 (kd : Int), .int .i64 (tx : Int), .slice none 0 0]] wx fun e w' => e = .returned (.bool (recOk ((kd : Int), (tx : Int), []))) ∧ Below wx.heap.size wx w') := fun wx => spec_recOk kd tx none 0 0 [] wx (slo_nil _ _) (fun p hp => absurd hp List.not_mem_nil)
              clear hK hT hrb
              cases hok : recOk ((kd : Int), (tx : Int), [])
              · rw [hok] at HRK
                have HF : Hid (getRec bs (P : Int) = none) := by show _ = _; rw [HRB.out, okRec_no hok]; rfl
                clear hok HRB
                go_wp2_with fail
                refine HN1.out.mono ?_
                rintro e w3 ⟨rfl, hw3⟩
                subst hw3
                go_wp2_with fail
                refine HN2.out.mono ?_
                rintro e w3 ⟨rfl, hw3⟩
                subst hw3
                go_wp2_with fail
                refine last.wp_region_on w3.heap.size (by kernel_rfl) (by kernel_rfl) ?_
                repeat (go_big_quiet_step ((go_at_call 53; exact hcall _)))
                refine wpQuiet_nil ?_
                intro w5 hw5
                obtain ⟨x5, hw5⟩ := hw5
                have hb5 : Below w3.heap.size w3 w5 := by rw [hw5]; exact x5.2
                clear hw5 x5 hinh hcall hcvx
                have hB5 := hB2.trans (hb5.mono hB2.size)
                have hR5 := hR2.below hb5
                have hN5 := hN2.below hb5
                have hb6 : Below w5.heap.size w5 (w5.alloc (.cells #[.int .i64 (kd : Int), .int .i64 (tx : Int), .slice none 0 0] 26)) := (Below.refl _ _).alloc (Nat.le_refl _) _
                have hB6 := hB5.trans (hb6.mono hB5.size)
                have hR6 := hR5.below hb6
                have hN6 := hN5.below hb6
                have hT6 := boxR_new w5 (kd : Int) (tx : Int) (.slice none 0 0)
                go_wp2_with fail
                refine (HRK.out _).mono ?_
                rintro e w7 ⟨rfl, hb7⟩
                have hB7 := hB6.trans (hb7.mono hB6.size)
                have hR7 := hR6.below hb7
                have hN7 := hN6.below hb7
                obtain ⟨z, zg⟩ := boxR_set hR7 (.int .i64 0) (.int .i64 0) (.slice none 0 0)
                have hz : BoxR w.heap.size 0 0 (.slice none 0 0) _ := z
                have hzc := hz.cells
                have HBz := Hid.mk' (hB7.grown zg hB7.size (fun j e => by cases e; exact Nat.le_refl _))
                obtain ⟨n0, n1, n2⟩ := hN7.cells
                obtain ⟨r0, r1, r2⟩ := hR7.cells
                have f0 := hR7.fz 0
                have f1 := hR7.fz 1
                have f2 := hR7.fz 2
                go_wp2_with fail
                refine bodyPost_ret (v := .tuple #[.agg #[.int .i64 0, .int .i64 0, .slice none 0 0], .int .i64 (P : Int), .bool false]) ?_ rfl (recPost_none HF.out HBz.out)
                simp [results, Tryd.results19, go_sem, hzc.1, hzc.2.1, hzc.2.2]
              · rw [hok] at HRK
                have HF : Hid (getRec bs (P : Int) = some (((kd : Int), (tx : Int), []), p + n + 4)) := by show _ = _; rw [HRB.out, okRec_ok hok]; rfl
                clear hok HRB
                go_wp2_with fail
                refine HN1.out.mono ?_
                rintro e w3 ⟨rfl, hw3⟩
                subst hw3
                go_wp2_with fail
                refine HN2.out.mono ?_
                rintro e w3 ⟨rfl, hw3⟩
                subst hw3
                go_wp2_with fail
                refine last.wp_region_on w3.heap.size (by kernel_rfl) (by kernel_rfl) ?_
                repeat (go_big_quiet_step ((go_at_call 53; exact hcall _)))
                refine wpQuiet_nil ?_
                intro w5 hw5
                obtain ⟨x5, hw5⟩ := hw5
                have hb5 : Below w3.heap.size w3 w5 := by rw [hw5]; exact x5.2
                clear hw5 x5 hinh hcall hcvx
                have hB5 := hB2.trans (hb5.mono hB2.size)
                have hR5 := hR2.below hb5
                have hN5 := hN2.below hb5
                have hb6 : Below w5.heap.size w5 (w5.alloc (.cells #[.int .i64 (kd : Int), .int .i64 (tx : Int), .slice none 0 0] 26)) := (Below.refl _ _).alloc (Nat.le_refl _) _
                have hB6 := hB5.trans (hb6.mono hB5.size)
                have hR6 := hR5.below hb6
                have hN6 := hN5.below hb6
                have hT6 := boxR_new w5 (kd : Int) (tx : Int) (.slice none 0 0)
                go_wp2_with fail
                refine (HRK.out _).mono ?_
                rintro e w7 ⟨rfl, hb7⟩
                have hB7 := hB6.trans (hb7.mono hB6.size)
                have hR7 := hR6.below hb7
                have hT7 := hT6.below hb7
                obtain ⟨z, zg⟩ := boxR_set hR7 (.int .i64 (kd : Int)) (.int .i64 (tx : Int)) (.slice none 0 0)
                have hz : BoxR w.heap.size (kd : Int) (tx : Int) (.slice none 0 0) _ := z
                have hzc := hz.cells
                have HBz := Hid.mk' (hB7.grown zg hB7.size (fun j e => by cases e; exact Nat.le_refl _))
                obtain ⟨t0, t1, t2⟩ := hT7.cells
                obtain ⟨r0, r1, r2⟩ := hR7.cells
                have f0 := hR7.fz 0
                have f1 := hR7.fz 1
                have f2 := hR7.fz 2
                go_wp2_with fail
                refine bodyPost_ret (v := .tuple #[.agg #[.int .i64 (kd : Int), .int .i64 (tx : Int), .slice none 0 0], .int .i64 ((p : Int) + (n : Int) + 4), .bool true]) ?_ rfl (recPost_some (x := ((kd : Int), (tx : Int), [])) HF.out (by omega) (ownV_nil _ _) HBz.out)
                simp [results, Tryd.results19, go_sem, hzc.1, hzc.2.1, hzc.2.2]
            · have hri : ((ka + kb : Nat) : Int) < (n : Int) := by omega
              have HRB : Hid (readBody body = match getOps (body.drop (ka + kb)) with | none => none | some l => okRec ((kd : Int), (tx : Int), l)) := by
                show _ = _
                unfold readBody; rw [hK]; simp only []; rw [hT]; simp only []; rw [if_neg (by omega)]; rfl
              generalize hrr : ka + kb = r at *
              have hrn : r < n := by omega
              have hcr : ¬ cp2 = r := by omega
              have hsp := sl_part hSB r (n - r) (by omega)
              have etk : (body.drop r).take (n - r) = body.drop r := List.take_of_length_le (by simp; omega)
              rw [etk, Nat.zero_add] at hsp
              have HGO : Hid (∀ wx, Below w2.heap.size w2 wx → Calls Tryd.prog 54 #[.slice (some ⟨g2, r, none⟩) (n - r) (cp2 - r)] wx fun e w' => GetPost wx (getOps (body.drop r)) e w') := fun wx hx => spec_getOps (some ⟨g2, r, none⟩) (n - r) (cp2 - r) (body.drop r) wx (hsp.below hx) (by omega) (by omega)
              clear hK hT hsp etk
              rcases hGo : getOps (body.drop r) with _ | ops
              · have HF : Hid (getRec bs (P : Int) = none) := by show _ = _; rw [hrb, HRB.out, hGo]; rfl
                rw [hGo] at HGO
                clear hGo hrb HRB
                go_wp2_with fail
                refine HN1.out.mono ?_
                rintro e w3 ⟨rfl, hw3⟩
                subst hw3
                go_wp2_with fail
                refine HN2.out.mono ?_
                rintro e w3 ⟨rfl, hw3⟩
                subst hw3
                go_wp2_with fail
                refine last.wp_region_on w3.heap.size (by kernel_rfl) (by kernel_rfl) ?_
                repeat (go_big_quiet_step ((go_at_call 53; exact hcall _)))
                refine wpQuiet_nil ?_
                intro w5 hw5
                obtain ⟨x5, hw5⟩ := hw5
                have hb5 : Below w3.heap.size w3 w5 := by rw [hw5]; exact x5.2
                clear hw5 x5 hinh hcall hcvx
                have hB5 := hB2.trans (hb5.mono hB2.size)
                have hR5 := hR2.below hb5
                have hN5 := hN2.below hb5
                have hb6 : Below w5.heap.size w5 (w5.alloc (.cells #[.int .i64 (kd : Int), .int .i64 (tx : Int), .slice none 0 0] 26)) := (Below.refl _ _).alloc (Nat.le_refl _) _
                have hB6 := hB5.trans (hb6.mono hB5.size)
                have hR6 := hR5.below hb6
                have hN6 := hN5.below hb6
                have hT6 := boxR_new w5 (kd : Int) (tx : Int) (.slice none 0 0)
                have hX6 : Below w3.heap.size w3 (w5.alloc (.cells #[.int .i64 (kd : Int), .int .i64 (tx : Int), .slice none 0 0] 26)) := hb5.trans (hb6.mono hb5.size)
                go_wp2_with fail
                refine (HGO.out _ hX6).mono ?_
                rintro e w7 ⟨g8, n8, cp8, rfl, hO8, hb7⟩
                simp only [Option.isSome_none]
                have hB7 := hB6.trans (hb7.mono hB6.size)
                have hR7 := hR6.below hb7
                have hN7 := hN6.below hb7
                obtain ⟨z, zg⟩ := boxR_set hR7 (.int .i64 0) (.int .i64 0) (.slice none 0 0)
                have hz : BoxR w.heap.size 0 0 (.slice none 0 0) _ := z
                have hzc := hz.cells
                have HBz := Hid.mk' (hB7.grown zg hB7.size (fun j e => by cases e; exact Nat.le_refl _))
                obtain ⟨n0, n1, n2⟩ := hN7.cells
                obtain ⟨r0, r1, r2⟩ := hR7.cells
                have f0 := hR7.fz 0
                have f1 := hR7.fz 1
                have f2 := hR7.fz 2
                go_wp2_with fail
                refine bodyPost_ret (v := .tuple #[.agg #[.int .i64 0, .int .i64 0, .slice none 0 0], .int .i64 (P : Int), .bool false]) ?_ rfl (recPost_none HF.out HBz.out)
                simp [results, Tryd.results19, go_sem, hzc.1, hzc.2.1, hzc.2.2]
              · obtain ⟨hopk, _⟩ := getOps_some hGo
                have hkeys : Hid (∀ p ∈ ops, p.2.1.size ≤ 1099511627776) := fun p hp => by have := keyOk_size ((odOk_iff p).1 (((opsOk_iff _).1 hopk).1.1 p hp)).2.2.1; omega
                have HRC : Hid (getRec bs (P : Int) = (okRec ((kd : Int), (tx : Int), ops)).map fun r => (r, p + n + 4)) := by show _ = _; rw [hrb, HRB.out, hGo]
                rw [hGo] at HGO
                clear hGo hrb HRB hopk
                go_wp2_with fail
                refine HN1.out.mono ?_
                rintro e w3 ⟨rfl, hw3⟩
                subst hw3
                go_wp2_with fail
                refine HN2.out.mono ?_
                rintro e w3 ⟨rfl, hw3⟩
                subst hw3
                go_wp2_with fail
                refine last.wp_region_on w3.heap.size (by kernel_rfl) (by kernel_rfl) ?_
                repeat (go_big_quiet_step ((go_at_call 53; exact hcall _)))
                refine wpQuiet_nil ?_
                intro w5 hw5
                obtain ⟨x5, hw5⟩ := hw5
                have hb5 : Below w3.heap.size w3 w5 := by rw [hw5]; exact x5.2
                clear hw5 x5 hinh hcall hcvx
                have hB5 := hB2.trans (hb5.mono hB2.size)
                have hR5 := hR2.below hb5
                have hN5 := hN2.below hb5
                have hb6 : Below w5.heap.size w5 (w5.alloc (.cells #[.int .i64 (kd : Int), .int .i64 (tx : Int), .slice none 0 0] 26)) := (Below.refl _ _).alloc (Nat.le_refl _) _
                have hB6 := hB5.trans (hb6.mono hB5.size)
                have hR6 := hR5.below hb6
                have hN6 := hN5.below hb6
                have hT6 := boxR_new w5 (kd : Int) (tx : Int) (.slice none 0 0)
                have hX6 : Below w3.heap.size w3 (w5.alloc (.cells #[.int .i64 (kd : Int), .int .i64 (tx : Int), .slice none 0 0] 26)) := hb5.trans (hb6.mono hb5.size)
                go_wp2_with fail
                refine (HGO.out _ hX6).mono ?_
                rintro e w7 ⟨g8, n8, cp8, he8, hO8, hb7⟩
                simp only [Option.isSome_some, Option.getD_some] at he8 hO8
                subst he8
                have hB7 := hB6.trans (hb7.mono hB6.size)
                have hR7 := hR6.below hb7
                have hN7 := hN6.below hb7
                have hT7 := hT6.below hb7
                have hT8 := boxR_ops hT7 (.slice (some ⟨g8, 0, none⟩) n8 cp8)
                have hs6 : (w5.alloc (.cells #[.int .i64 (kd : Int), .int .i64 (tx : Int), .slice none 0 0] 26)).heap.size = w5.heap.size + 1 := by simp
                have hg8 := hO8.lt
                have hl5 : w.heap.size + 1 < w5.heap.size := hN5.lt
                have hg8w : w5.heap.size < g8 := by omega
                have hO8' := (hO8.mono (base' := w.heap.size) (by omega)).grown hT8.2 (by simp; omega)
                have hB8 : Below w.heap.size w (w7.setCell ⟨w5.heap.size, 2, none⟩ (.slice (some ⟨g8, 0, none⟩) n8 cp8)) := hB7.grown hT8.2 hB7.size (fun j e => by cases e; omega)
                have hR8 := hR7.grown hT8.2 (by simp; omega)
                have hN8 := hN7.grown hT8.2 (by simp; omega)
                have HRK := Hid.mk' (spec_recOk (kd : Int) (tx : Int) (some ⟨g8, 0, none⟩) n8 cp8 ops _ hO8'.sl hkeys.out)
                obtain ⟨u0, u1, u2⟩ := hT7.cells
                have v2 := hT7.fz 2
                have hTb := hT8.1
                obtain ⟨y0, y1, y2⟩ := hTb.cells
                obtain ⟨W8, hW8⟩ : ∃ W8, W8 = w7.setCell ⟨w5.heap.size, 2, none⟩ (.slice (some ⟨g8, 0, none⟩) n8 cp8) := ⟨_, rfl⟩
                rw [← hW8] at HRK y0 y1 y2 hTb hR8 hN8 hB8 hO8'
                have HW8 := Hid.mk' hW8.symm
                clear hW8 hT8 hO8 hs6 hR7 hN7 hT7 hB7 hb7
                cases hok : recOk ((kd : Int), (tx : Int), ops)
                · rw [hok] at HRK
                  have HF : Hid (getRec bs (P : Int) = none) := by show _ = _; rw [HRC.out, okRec_no hok]; rfl
                  clear hok HRC
                  go_wp2_with fail
                  rw [HW8.out]
                  refine HRK.out.mono ?_
                  rintro e w9 ⟨rfl, hb9⟩
                  have hB9 := hB8.trans (hb9.mono hB8.size)
                  have hR9 := hR8.below hb9
                  have hN9 := hN8.below hb9
                  obtain ⟨z, zg⟩ := boxR_set hR9 (.int .i64 0) (.int .i64 0) (.slice none 0 0)
                  have hz : BoxR w.heap.size 0 0 (.slice none 0 0) _ := z
                  have hzc := hz.cells
                  have HBz := Hid.mk' (hB9.grown zg hB9.size (fun j e => by cases e; exact Nat.le_refl _))
                  obtain ⟨n0, n1, n2⟩ := hN9.cells
                  obtain ⟨r0, r1, r2⟩ := hR9.cells
                  have f0 := hR9.fz 0
                  have f1 := hR9.fz 1
                  have f2 := hR9.fz 2
                  go_wp2_with fail
                  refine bodyPost_ret (v := .tuple #[.agg #[.int .i64 0, .int .i64 0, .slice none 0 0], .int .i64 (P : Int), .bool false]) ?_ rfl (recPost_none HF.out HBz.out)
                  simp [results, Tryd.results19, go_sem, hzc.1, hzc.2.1, hzc.2.2]
                · rw [hok] at HRK
                  have HF : Hid (getRec bs (P : Int) = some (((kd : Int), (tx : Int), ops), p + n + 4)) := by show _ = _; rw [HRC.out, okRec_ok hok]; rfl
                  clear hok HRC
                  go_wp2_with fail
                  rw [HW8.out]
                  refine HRK.out.mono ?_
                  rintro e w9 ⟨rfl, hb9⟩
                  have hB9 := hB8.trans (hb9.mono hB8.size)
                  have hR9 := hR8.below hb9
                  have hT9 := hTb.below hb9
                  have hO9 := hO8'.below hb9
                  obtain ⟨z, zg⟩ := boxR_set hR9 (.int .i64 (kd : Int)) (.int .i64 (tx : Int)) (.slice (some ⟨g8, 0, none⟩) n8 cp8)
                  have hz : BoxR w.heap.size (kd : Int) (tx : Int) (.slice (some ⟨g8, 0, none⟩) n8 cp8) _ := z
                  have hzc := hz.cells
                  have HBz := Hid.mk' (hB9.grown zg hB9.size (fun j e => by cases e; exact Nat.le_refl _))
                  have HOz := Hid.mk' (ownV_of (hO9.grown zg (by simp; omega)))
                  obtain ⟨t0, t1, t2⟩ := hT9.cells
                  obtain ⟨r0, r1, r2⟩ := hR9.cells
                  have f0 := hR9.fz 0
                  have f1 := hR9.fz 1
                  have f2 := hR9.fz 2
                  clear y0 y1 y2 u0 u1 u2 v2
                  go_wp2_with fail
                  refine bodyPost_ret (v := .tuple #[.agg #[.int .i64 (kd : Int), .int .i64 (tx : Int), .slice (some ⟨g8, 0, none⟩) n8 cp8], .int .i64 ((p : Int) + (n : Int) + 4), .bool true]) ?_ rfl (recPost_some (x := ((kd : Int), (tx : Int), ops)) HF.out (by omega) HOz.out HBz.out)
                  simp [results, Tryd.results19, go_sem, hzc.1, hzc.2.1, hzc.2.2]
          · have hne : (cut bs (p + n) 4).toList ≠ (D.extract 0 4).toList := by
              intro e
              apply hs
              rw [ByteArray.toList_eq, ByteArray.toList_eq, cut_data, HDC.out] at e
              exact e
            have hne2 : ((cut bs (p + n) 4).toList == (D.extract 0 4).toList) = false := beq_eq_false_iff_ne.2 hne
            have HF : Hid (getRec bs (P : Int) = none) := HNO3.out hs
            generalize cut bs (p + n) 4 = S at *
            clear hK hT HBD HNO3 HG2 HDC hs
            go_wp2_with fail
            refine HN1.out.mono ?_
            rintro e w3 ⟨rfl, hw3⟩
            subst hw3
            go_wp2_with fail
            refine HN2.out.mono ?_
            rintro e w3 ⟨rfl, hw3⟩
            subst hw3
            go_wp2_with fail
            refine last.wp_region_on w3.heap.size (by kernel_rfl) (by kernel_rfl) ?_
            repeat (go_big_quiet_step ((go_at_call 53; exact hcall _)))
            refine wpQuiet_nil ?_
            intro w5 hw5
            obtain ⟨x5, hw5⟩ := hw5
            have hb5 : Below w3.heap.size w3 w5 := by rw [hw5]; exact x5.2
            clear hw5 x5 hinh hcall hcvx
            have hB5 := hB2.trans (hb5.mono hB2.size)
            have hR5 := hR2.below hb5
            have hN5 := hN2.below hb5
            obtain ⟨z, zg⟩ := boxR_set hR5 (.int .i64 0) (.int .i64 0) (.slice none 0 0)
            have hz : BoxR w.heap.size 0 0 (.slice none 0 0) _ := z
            have hzc := hz.cells
            have HBz := Hid.mk' (hB5.grown zg hB5.size (fun j e => by cases e; exact Nat.le_refl _))
            obtain ⟨n0, n1, n2⟩ := hN5.cells
            obtain ⟨r0, r1, r2⟩ := hR5.cells
            have f0 := hR5.fz 0
            have f1 := hR5.fz 1
            have f2 := hR5.fz 2
            go_wp2_with fail
            refine bodyPost_ret (v := .tuple #[.agg #[.int .i64 0, .int .i64 0, .slice none 0 0], .int .i64 (P : Int), .bool false]) ?_ rfl (recPost_none HF.out HBz.out)
            simp [results, Tryd.results19, go_sem, hzc.1, hzc.2.1, hzc.2.2]
end Go.Proofs.YtooiinicnkhlbaaDoor.recs
