/- The program's records out of bytes: the body at a place, and whether its digest's first bytes are there. The program's orders, read of bytes. -/
import Derived.Test.YtooiinicnkhlbaaDoorBund8ap
import Derived.Test.YtooiinicnkhlbaaDoorBund8au
import Derived.Laws.CopyOwn
import Derived.Test.YtooiinicnkhlbaaDoorBund8aj
import Derived.Test.YtooiinicnkhlbaaDoorBund8at
namespace Go.Proofs.YtooiinicnkhlbaaDoor.recs
open Go Go.RowKit Go.Proofs.YtooiinicnkhlbaaDoor.base Go.Proofs.YtooiinicnkhlbaaDoor.pairs Go.Proofs.YtooiinicnkhlbaaDoor.ords Go.Proofs.YtooiinicnkhlbaaDoor.putnum Go.Proofs.YtooiinicnkhlbaaDoor.puttext Go.Proofs.YtooiinicnkhlbaaDoor.getnum Go.Proofs.YtooiinicnkhlbaaDoor.gettext
set_option linter.unusedVariables false
set_option linter.unusedSimpArgs false

/-- the body at a place, and where it ends -/
def bodyAt (bs : List UInt8) (at_ : Int) : Option (List UInt8 × Nat) :=
  match getNum bs at_ with
  | none => none
  | some (n, k) => if bs.length < at_.toNat + k + n + 4 then none
    else if (bs.drop (at_.toNat + k + n)).take 4 = sum4 ((bs.drop (at_.toNat + k)).take n) then some ((bs.drop (at_.toNat + k)).take n, at_.toNat + k + n + 4) else none
theorem getRec_bodyAt (bs : List UInt8) (at_ : Int) : getRec bs at_ = match bodyAt bs at_ with | none => none | some (b, q) => (readBody b).map fun r => (r, q) := by
  unfold getRec bodyAt
  rcases getNum bs at_ with _ | ⟨n, k⟩
  · rfl
  · simp only []
    by_cases h1 : bs.length < at_.toNat + k + n + 4
    · rw [if_pos h1, if_pos h1]
    · rw [if_neg h1, if_neg h1]
      by_cases h2 : (bs.drop (at_.toNat + k + n)).take 4 = sum4 ((bs.drop (at_.toNat + k)).take n)
      · rw [if_pos h2, if_pos h2]
        simp only []
        cases readBody ((bs.drop (at_.toNat + k)).take n) <;> rfl
      · rw [if_neg h2, if_neg h2]
theorem bodyAt_no1 {bs : List UInt8} {p : Int} (h : getNum bs p = none) : bodyAt bs p = none := by unfold bodyAt; rw [h]
theorem bodyAt_no2 {bs : List UInt8} {P n k : Nat} (h : getNum bs (P : Int) = some (n, k)) (hl : bs.length < P + k + n + 4) : bodyAt bs (P : Int) = none := by unfold bodyAt; rw [h]; simp only [Int.toNat_natCast]; rw [if_pos hl]
theorem bodyAt_no3 {bs : List UInt8} {P n k : Nat} (h : getNum bs (P : Int) = some (n, k)) (hl : ¬ bs.length < P + k + n + 4) (hs : ¬ (bs.drop (P + k + n)).take 4 = sum4 ((bs.drop (P + k)).take n)) : bodyAt bs (P : Int) = none := by unfold bodyAt; rw [h]; simp only [Int.toNat_natCast]; rw [if_neg hl, if_neg hs]
theorem bodyAt_yes {bs : List UInt8} {P n k : Nat} (h : getNum bs (P : Int) = some (n, k)) (hl : ¬ bs.length < P + k + n + 4) (hs : (bs.drop (P + k + n)).take 4 = sum4 ((bs.drop (P + k)).take n)) : bodyAt bs (P : Int) = some ((bs.drop (P + k)).take n, P + k + n + 4) := by unfold bodyAt; rw [h]; simp only [Int.toNat_natCast]; rw [if_neg hl, if_pos hs]
/-- what getBody answers -/
def BodyPost (w : World) (r : Option (List UInt8 × Nat)) (e : Ending) (w' : World) : Prop := Below w.heap.size w w' ∧
  ((r = none ∧ ∃ pa n c q, e = .returned (.tuple #[.slice pa n c, .int .i64 q, .bool false])) ∨
    ∃ b q g n cp, r = some (b, q) ∧ e = .returned (.tuple #[.slice (some ⟨g, 0, none⟩) n cp, .int .i64 ((q : Nat) : Int), .bool true]) ∧ Own w' w.heap.size g n cp b)

set_option maxRecDepth 100000 in
set_option maxHeartbeats 4000000 in
theorem i_getBody (a : Option Addr) (len cap : Nat) (at_ : Int) (bs : List UInt8) (w : World) (h : Sl w a len bs) (hcap : len ≤ cap) (hsz : len ≤ 1099511627776) (hat : (Lit.int .i64 at_).wf = true) (hK : sha.KW w) :
    Calls Tryd.prog 70 #[.slice a len cap, .int .i64 at_] w fun e w' => BodyPost w (bodyAt bs at_) e w' := by
  obtain ⟨i0, hi, hz0, hz1, hz2⟩ := info_parts info8
  have hl := h.1
  have HG := Hid.mk' (impl_get a len cap at_ bs w h hat)
  rcases hG : getNum bs at_ with _ | ⟨n, k⟩
  · have HF := Hid.mk' (bodyAt_no1 hG)
    rw [hG, numRet] at HG
    clear hG
    go_enter Tryd.func70, Tryd.ntmps70
    go_wp2_with fail
    refine HG.out.mono ?_
    rintro e w1 ⟨rfl, hw1⟩
    subst hw1
    go_wp2_with fail
    go_ret3
    exact ⟨Below.refl _ _, .inl ⟨HF.out, _, _, _, _, rfl⟩⟩
  · obtain ⟨h0, hk1, hk5, hle, hn9⟩ := getNum_some hG
    obtain ⟨P, rfl⟩ := Int.eq_ofNat_of_zero_le h0
    simp only [Int.toNat_natCast] at hle
    rw [hG, numRet] at HG
    rw [show (P : Int) + (k : Int) = ((P + k : Nat) : Int) by omega] at HG
    by_cases hbig : bs.length < P + k + n + 4
    · have HF := Hid.mk' (bodyAt_no2 hG hbig)
      clear hG
      generalize P + k = p at *
      have hbi : (len : Int) - (p : Int) < (n : Int) + 4 := by omega
      go_enter Tryd.func70, Tryd.ntmps70
      go_wp2_with fail
      refine HG.out.mono ?_
      rintro e w1 ⟨rfl, hw1⟩
      subst hw1
      go_wp2_with fail
      go_ret3
      exact ⟨Below.refl _ _, .inl ⟨HF.out, _, _, _, _, rfl⟩⟩
    · obtain ⟨b, off, ha, _⟩ := h.2.2 (by omega)
      subst ha
      have HNO : Hid (¬ (bs.drop (P + k + n)).take 4 = sum4 ((bs.drop (P + k)).take n) → bodyAt bs (P : Int) = none) := fun hs => bodyAt_no3 hG hbig hs
      have HYES : Hid ((bs.drop (P + k + n)).take 4 = sum4 ((bs.drop (P + k)).take n) → bodyAt bs (P : Int) = some ((bs.drop (P + k)).take n, P + k + n + 4)) := fun hs => bodyAt_yes hG hbig hs
      have hpart := sl_part h (P + k) n (by omega)
      have HCV : Hid (∀ wx c, Below w.heap.size w wx → (convert 22 9 (.slice (some ⟨b, off + (P + k + n), none⟩) 4 c)).run Tryd.prog wx = .ok (.string (cut bs (P + k + n) 4)) wx) := fun wx c hx => conv_cut (w := wx) (h.below hx) (p := P + k + n) (n := 4) (by omega) c
      generalize hBY : (bs.drop (P + k)).take n = body at *
      have hbl : body.length = n := by rw [← hBY]; simp; omega
      generalize hp : P + k = p at *
      have hbi : ¬ (len : Int) - (p : Int) < (n : Int) + 4 := by omega
      have hi1 : (p : Int) ≤ (cap : Int) := by omega
      have hcp : ¬ cap = p := by omega
      have hnm : n ≤ maxLen := by unfold maxLen; omega
      clear hG hBY
      go_enter Tryd.func70, Tryd.ntmps70
      go_wp2_with fail
      refine HG.out.mono ?_
      rintro e w1 ⟨rfl, hw1⟩
      subst hw1
      go_wp2_with (at_make; refine wpList_make_full _ rfl _ _ 22 rfl w1.heap.size 5 i0 (.int .u8 0) 1 Tryd.underlying22 hi hz0 hz1 _ _ _ _ n rfl rfl rfl rfl ?b2 ?b3 ?b4 ?_)
      case b2 => rw [hz2]; omega
      case b3 => exact hnm
      case b4 => exact Nat.le_refl _
      intro w4 hown4 hgrow4
      have hb4 : Below w1.heap.size w1 w4 := (Below.refl _ _).grown hgrow4 (Nat.le_refl _) (fun k e => by cases e)
      have hO4 : Own w4 w1.heap.size w1.heap.size n n (List.replicate n 0) := by
        refine ⟨by simp, ?_⟩
        have e : byteVals (List.replicate n 0) = (madeCells #[.int .u8 0] n).toList := by
          simp [byteVals, toList_madeCells_one]
        rw [e]; exact hown4
      have HROW := Hid.mk' (own_row hO4)
      have hsz1 : (Tryd.prog.info? 5).map (·.size) = some 1 := by rw [hi]; simp [hz1]
      have HPOS : Hid (0 < (byteVals body).length → (some (⟨w1.heap.size, 0, none⟩ : Addr)) = some ⟨w1.heap.size, 0, none⟩ ∧ ∃ ad, (some (⟨b, off + p, none⟩ : Addr)) = some ad ∧ ∀ j v, (byteVals body)[j]? = some v → w4.cell? (ad.add j) = some v) := fun _ => ⟨rfl, _, rfl, sl_cells (hpart.below hb4)⟩
      have hbv : (byteVals body).length = n := by rw [byteVals_length]; exact hbl
      clear hown4 hgrow4 hO4
      go_wp2_with (refine wpList_copy_splice rfl (.tmp 34) (.tmp 37) 22 22 rfl 5 Tryd.underlying22 hsz1 _ _ _ _ _ _ rfl rfl w1.heap.size 0 (byteVals (List.replicate n 0)) 5 HROW.out (byteVals body) ?d1 HPOS.out ?d2 (byteVals_oneCell _) w1.heap.size w1 hb4 (Nat.le_refl _) ?_)
      case d1 => first | exact (Nat.min_eq_right (by omega)).symm | (rw [byteVals_length, hbl]; exact (Nat.min_eq_right (by omega)).symm)
      case d2 => rw [byteVals_length (List.replicate n 0)]; simp <;> omega
      intro w5 hrow5 hb5
      have e5 : splice (byteVals (List.replicate n 0)) 0 (byteVals body) = byteVals body := by
        simp [splice, byteVals_length, hbl, byteVals]
      rw [e5] at hrow5
      have hO5 : Own w5 w1.heap.size w1.heap.size n n body := own_of_row hbl hnm (Nat.le_refl _) hrow5.out
      have hinh := last.On.inh w5.heap.size w5
      have hcall : ∀ x : last.On w5.heap.size w5, Calls Tryd.prog 42 #[.slice (some ⟨w1.heap.size, 0, none⟩) n n] x.w fun e w' => e = .returned (.string ((⟨(sha.digest body).toArray⟩ : ByteArray).extract 0 4)) ∧ ∃ y : last.On w5.heap.size w5, w' = y.w := fun x => last.Calls.on x (Nat.le_refl _) (i_markOf _ n n body x.w (hO5.sl.below x.2) (by omega) ((hK.below hb5).below x.2))
      have hcvx : ∀ (x : last.On w5.heap.size w5) (c : Nat), (convert 22 9 (.slice (some ⟨b, off + (p + n), none⟩) 4 c)).run Tryd.prog x.w = .ok (.string (cut bs (p + n) 4)) x.w := fun x c => HCV.out x.w c (hb5.trans (x.2.mono hb5.size))
      have HDC := Hid.mk' (digest_cut body)
      generalize (⟨(sha.digest body).toArray⟩ : ByteArray).extract 0 4 = D at *
      have hcn : ¬ cap = p + n := by omega
      have hi2 : (p : Int) + (n : Int) + 4 ≤ (cap : Int) := by omega
      clear HG HROW HPOS hrow5 e5 hpart HCV
      by_cases hs : (bs.drop (p + n)).take 4 = sum4 body
      · have HF := Hid.mk' (HYES.out hs)
        have heq : cut bs (p + n) 4 = D := by
          apply ByteArray.ext; apply Array.toList_inj.1
          rw [HDC.out]; unfold cut; simpa using hs
        rw [heq] at hcvx
        clear heq hs HYES HNO HDC
        go_wp2_with fail
        refine last.wp_region_on w5.heap.size (by kernel_rfl) (by kernel_rfl) ?_
        repeat (go_big_quiet_step ((go_at_call 42; exact hcall _)))
        refine wpQuiet_nil ?_
        intro w6 hw6
        obtain ⟨x6, hw6⟩ := hw6
        have hb6 : Below w5.heap.size w5 w6 := by rw [hw6]; exact x6.2
        clear hw6 x6 hinh hcall hcvx
        go_wp2_with fail
        go_ret3
        exact ⟨hb5.trans (hb6.mono hb5.size), .inr ⟨_, _, _, _, _, HF.out, by simp, hO5.below hb6⟩⟩
      · have HF := Hid.mk' (HNO.out hs)
        have hne : (cut bs (p + n) 4).toList ≠ D.toList := by
          intro e
          apply hs
          rw [ByteArray.toList_eq, ByteArray.toList_eq, cut_data, HDC.out] at e
          exact e
        have hne2 : ((cut bs (p + n) 4).toList == D.toList) = false := beq_eq_false_iff_ne.2 hne
        generalize cut bs (p + n) 4 = S at *
        clear hs HYES HNO HDC
        go_wp2_with fail
        refine last.wp_region_on w5.heap.size (by kernel_rfl) (by kernel_rfl) ?_
        repeat (go_big_quiet_step ((go_at_call 42; exact hcall _)))
        refine wpQuiet_nil ?_
        intro w6 hw6
        obtain ⟨x6, hw6⟩ := hw6
        have hb6 : Below w5.heap.size w5 w6 := by rw [hw6]; exact x6.2
        clear hw6 x6 hinh hcall hcvx
        go_wp2_with fail
        go_ret3
        exact ⟨hb5.trans (hb6.mono hb5.size), .inl ⟨HF.out, _, _, _, _, rfl⟩⟩
end Go.Proofs.YtooiinicnkhlbaaDoor.recs

namespace Go.Proofs.YtooiinicnkhlbaaDoor.ords
open Go Go.RowKit Go.Proofs.YtooiinicnkhlbaaDoor.base Go.Proofs.YtooiinicnkhlbaaDoor.pairs Go.Proofs.YtooiinicnkhlbaaDoor.putnum Go.Proofs.YtooiinicnkhlbaaDoor.puttext Go.Proofs.YtooiinicnkhlbaaDoor.getnum Go.Proofs.YtooiinicnkhlbaaDoor.gettext Go.Proofs.YtooiinicnkhlbaaDoor.gettexts
set_option linter.unusedVariables false
set_option linter.unusedSimpArgs false

def opRet : Option (Od × Nat) → Value
  | none => .tuple #[.agg #[.int .i64 0, .string ⟨#[]⟩, .string ⟨#[]⟩], .int .i64 0, .bool false]
  | some (o, q) => .tuple #[.agg #[.int .i64 o.1, .string o.2.1, .string o.2.2], .int .i64 (q : Nat), .bool true]
theorem getOp_room {bs : List UInt8} {p : Nat} {o : Od} {q : Nat} (h : getOp bs p = some (o, q)) : q ≤ bs.length ∧ o.2.1.size ≤ bs.length ∧ o.2.2.size ≤ bs.length ∧ (Lit.int .i64 o.1).wf = true := by
  unfold getOp at h
  split at h
  · cases h
  · next z ka hG =>
    split at h
    · cases h
    · next key kb hT =>
      split at h
      · cases h
      · next val kc hT2 =>
        cases h
        have h1 := getNum_some hG
        have h2 := getText_some hT
        have h3 := getText_some hT2
        exact ⟨h3.1, h2.2, h3.2, WalkArith.wf_i64 (by omega)⟩

set_option maxRecDepth 100000 in
set_option maxHeartbeats 2000000 in
theorem i_getOp (a : Option Addr) (len cap p : Nat) (bs : List UInt8) (w : World) (h : Sl w a len bs) (hcap : len ≤ cap) (hsz : len ≤ 1099511627776) (hp : p ≤ len) :
    Calls Tryd.prog 112 #[.slice a len cap, .int .i64 (p : Int)] w fun e w' => e = .returned (opRet (getOp bs p)) ∧ Below w.heap.size w w' := by
  have hl := h.1
  have hwf : (Lit.int .i64 (p : Int)).wf = true := WalkArith.wf_i64 (by omega)
  have hba : Below w.heap.size w (w.alloc (.cells #[.int .i64 0, .string ⟨#[]⟩, .string ⟨#[]⟩] 85)) := (Below.refl _ _).alloc (Nat.le_refl _) _
  have hS := h.below hba
  have HG := Hid.mk' (impl_get a len cap (p : Int) bs _ hS hwf)
  rcases hG : getNum bs (p : Int) with _ | ⟨z, ka⟩
  · rw [hG, numRet] at HG
    have HF := Hid.mk' (getOp_none1 hG)
    rw [HF.out]
    clear hG HF hS
    go_enter Tryd.func112, Tryd.ntmps112
    go_wp2_with fail
    refine HG.out.mono ?_
    rintro e w1 ⟨rfl, hw1⟩
    subst hw1
    go_wp2_with fail
    exact bodyPost_ret (v := opRet none) (by simp [opRet, results, Tryd.results112, go_sem]) rfl ⟨rfl, (Below.refl _ _).alloc (Nat.le_refl _) _⟩
  · have hgs := getNum_some hG
    simp only [Int.toNat_natCast] at hgs
    rw [hG, numRet] at HG
    rw [show (p : Int) + (ka : Int) = ((p + ka : Nat) : Int) by omega] at HG
    have HT1 := Hid.mk' (gettext.impl_text a len cap ((p + ka : Nat) : Int) bs _ hS hcap (WalkArith.wf_i64 (by omega)))
    rcases hT : getText bs ((p + ka : Nat) : Int) with _ | ⟨key, kb⟩
    · rw [hT, textRet] at HT1
      have HF := Hid.mk' (getOp_none2 hG hT)
      rw [HF.out]
      generalize p + ka = q at *
      clear hG hT HF hS
      go_enter Tryd.func112, Tryd.ntmps112
      go_wp2_with fail
      refine HG.out.mono ?_
      rintro e w1 ⟨rfl, hw1⟩
      subst hw1
      go_wp2_with fail
      refine HT1.out.mono ?_
      rintro e w1 ⟨rfl, hw1⟩
      subst hw1
      go_wp2_with fail
      exact bodyPost_ret (v := opRet none) (by simp [opRet, results, Tryd.results112, go_sem]) rfl ⟨rfl, (Below.refl _ _).alloc (Nat.le_refl _) _⟩
    · have hts := getText_some hT
      rw [hT, textRet] at HT1
      rw [show ((p + ka : Nat) : Int) + (kb : Int) = ((p + ka + kb : Nat) : Int) by omega] at HT1
      have HT2 := Hid.mk' (gettext.impl_text a len cap ((p + ka + kb : Nat) : Int) bs _ hS hcap (WalkArith.wf_i64 (by omega)))
      rcases hT2 : getText bs ((p + ka + kb : Nat) : Int) with _ | ⟨val, kc⟩
      · rw [hT2, textRet] at HT2
        have HF := Hid.mk' (getOp_none3 hG hT hT2)
        rw [HF.out]
        generalize p + ka + kb = r at *
        generalize p + ka = q at *
        clear hG hT hT2 HF hS
        go_enter Tryd.func112, Tryd.ntmps112
        go_wp2_with fail
        refine HG.out.mono ?_
        rintro e w1 ⟨rfl, hw1⟩
        subst hw1
        go_wp2_with fail
        refine HT1.out.mono ?_
        rintro e w1 ⟨rfl, hw1⟩
        subst hw1
        go_wp2_with fail
        refine HT2.out.mono ?_
        rintro e w1 ⟨rfl, hw1⟩
        subst hw1
        go_wp2_with fail
        exact bodyPost_ret (v := opRet none) (by simp [opRet, results, Tryd.results112, go_sem]) rfl ⟨rfl, (Below.refl _ _).alloc (Nat.le_refl _) _⟩
      · have hts2 := getText_some hT2
        rw [hT2, textRet] at HT2
        rw [show ((p + ka + kb : Nat) : Int) + (kc : Int) = ((p + ka + kb + kc : Nat) : Int) by omega] at HT2
        have HF := Hid.mk' (getOp_some3 hG hT hT2)
        rw [HF.out]
        generalize p + ka + kb + kc = s at *
        generalize p + ka + kb = r at *
        generalize p + ka = q at *
        clear hG hT hT2 HF hS hts hts2
        go_enter Tryd.func112, Tryd.ntmps112
        go_wp2_with fail
        refine HG.out.mono ?_
        rintro e w1 ⟨rfl, hw1⟩
        subst hw1
        go_wp2_with fail
        refine HT1.out.mono ?_
        rintro e w1 ⟨rfl, hw1⟩
        subst hw1
        go_wp2_with fail
        refine HT2.out.mono ?_
        rintro e w1 ⟨rfl, hw1⟩
        subst hw1
        go_wp2_with fail
        exact bodyPost_ret (v := opRet (some (((z : Int), key, val), s))) (by simp [opRet, results, Tryd.results112, go_sem]) rfl ⟨rfl, (Below.refl _ _).alloc (Nat.le_refl _) _⟩

set_option maxRecDepth 100000 in
set_option maxHeartbeats 4000000 in
theorem impl_getOps (a : Option Addr) (len cap : Nat) (bs : List UInt8) (w : World) (h : Sl w a len bs) (hcap : len ≤ cap) (hsz : len ≤ 1099511627776) :
    Calls Tryd.prog 98 #[.slice a len cap] w fun e w' => GetPost w (getOps bs) e w' := by
  have hl := h.1
  have hba : Below w.heap.size w (w.alloc (.cells #[] 85)) := (Below.refl _ _).alloc (Nat.le_refl _) _
  have hON := ownO_made w w.heap.size (Nat.le_refl _)
  have HG := Hid.mk' (impl_get a len cap 0 bs w h (by rfl))
  rcases hG : getNum bs 0 with _ | ⟨n, k⟩
  · have HF : Hid (getOps bs = none) := by show _ = _; unfold getOps; rw [hG]
    rw [hG, numRet] at HG
    clear hG
    go_enter Tryd.func98, Tryd.ntmps98
    go_wp2_with fail
    refine HG.out.mono ?_
    rintro e w1 ⟨rfl, hw1⟩
    subst hw1
    go_wp2_with fail
    go_ret2
    exact getPost_none hON hba HF.out
  · obtain ⟨h0, hk1, hk5, hle, hn9⟩ := getNum_some hG
    simp only [Int.toNat_zero, Nat.zero_add] at hle
    rw [hG, numRet] at HG
    simp only [Int.zero_add] at HG
    by_cases hbig : 8 < n
    · have HF : Hid (getOps bs = none) := by show _ = _; unfold getOps; rw [hG]; simp only []; rw [if_pos hbig]
      clear hG
      go_enter Tryd.func98, Tryd.ntmps98
      go_wp2_with fail
      refine HG.out.mono ?_
      rintro e w1 ⟨rfl, hw1⟩
      subst hw1
      go_wp2_with fail
      go_ret2
      exact getPost_none hON hba HF.out
    · have HRES : Hid (getOps bs = match readOps bs n k [] with | none => none | some (l, p) => if p = bs.length ∧ opsOk l = true then some l else none) := by show _ = _; unfold getOps; rw [hG]; simp only []; rw [if_neg hbig]; rfl
      clear hG
      generalize hR : readOps bs n k [] = R at *
      have HR := Hid.mk' hR
      clear hR
      obtain ⟨i0, hi, hz0, hz1, hz2⟩ := info_parts infoO
      go_enter Tryd.func98, Tryd.ntmps98
      go_wp2_with fail
      refine HG.out.mono ?_
      rintro e w1 ⟨rfl, hw1⟩
      subst hw1
      clear HG
      go_wp2_with fail
      go_loopw [5, 7, 26] (fun pv lv iv wr => ∃ (j p g' cp : Nat) (acc : List Od), pv = .int .i64 (p : Int) ∧ lv = .slice (some ⟨g', 0, none⟩) j cp ∧ iv = .int .i64 (j : Int) ∧ j ≤ n ∧ p ≤ bs.length ∧ (∀ o ∈ acc, o.2.1.size ≤ bs.length) ∧ OwnO wr w1.heap.size g' j cp acc ∧ Below w1.heap.size w1 wr ∧ readOps bs (n - j) p acc = R) (fun _ _ iv _ => n - (intOf iv).toNat)
      case atStart => exact ⟨0, k, w1.heap.size, 0, [], by go_num, rfl, rfl, Nat.zero_le _, hle, fun o ho => absurd ho List.not_mem_nil, hON, hba, by simpa using HR.out⟩
      case round =>
        clear hba hON HR
        obtain ⟨j, p, g', cp, acc, rfl, rfl, rfl, hj, hp, hacc, hO, hB, hr⟩ := hrel
        have hS := h.below hB
        by_cases hlt : j < n
        · have hji : (j : Int) < (n : Int) := by omega
          have hrd : readOps bs (n - j) p acc = match getOp bs p with | none => none | some (o, q) => readOps bs (n - (j + 1)) q (acc ++ [o]) := by
            rw [show n - j = (n - (j + 1)) + 1 by omega, readOps]; rfl
          rw [hr] at hrd
          have HG := Hid.mk' (i_getOp a len cap p bs wr hS hcap hsz (by omega))
          rcases hG : getOp bs p with _ | ⟨o, q⟩
          · have HF : Hid (getOps bs = none) := by show _ = _; rw [HRES.out, hrd, hG]
            rw [hG, opRet] at HG
            clear hG hrd hr hS
            go_wp2_with fail
            refine HG.out.mono ?_
            rintro e w2 ⟨rfl, hb2⟩
            have hB2 := hB.trans (hb2.mono hB.size)
            have hB3 := hB2.alloc hB2.size (.cells #[.int .i64 0, .string ⟨#[]⟩, .string ⟨#[]⟩] 85)
            have hB4 := hB3.alloc hB3.size (.cells #[] 85)
            have hO4 := ownO_made (w2.alloc (.cells #[.int .i64 0, .string ⟨#[]⟩, .string ⟨#[]⟩] 85)) w1.heap.size hB3.size
            have hsz3 : (w2.alloc (.cells #[.int .i64 0, .string ⟨#[]⟩, .string ⟨#[]⟩] 85)).heap.size = w2.heap.size + 1 := by simp
            rw [hsz3] at hO4
            clear hsz3
            go_wp2_with fail
            go_ret2
            exact getPost_none hO4 hB4 HF.out
          · have hrm := getOp_room hG
            rw [hG, opRet] at HG
            have HNX : Hid (readOps bs (n - (j + 1)) q (acc ++ [o]) = R) := by show _ = _; rw [hrd, hG]
            have hqq : q ≤ bs.length := hrm.1
            have hsmO : smallO o := ⟨hrm.2.2.2, by unfold maxLen; omega, by unfold maxLen; omega⟩
            have hc3 : j + 1 ≤ maxLen := by unfold maxLen; omega
            have hc4 : (j + 1) * 40 ≤ 140737488355328 := by omega
            have hacc2 : Hid (∀ x ∈ acc ++ [o], x.2.1.size ≤ bs.length) := by
              intro x hx
              rcases List.mem_append.1 hx with h1 | h1
              · exact hacc x h1
              · simp at h1; subst h1; exact hrm.2.1
            clear hG hrd hr hS hrm hacc
            go_wp2_with (at_builtin; fail)
            refine HG.out.mono ?_
            rintro e w2 ⟨rfl, hb2⟩
            have hB2 := hB.trans (hb2.mono hB.size)
            have hO2 := hO.below hb2
            have hB3 := hB2.alloc hB2.size (.cells #[.int .i64 o.1, .string o.2.1, .string o.2.2] 85)
            have hO3 := hO2.below ((Below.refl _ _).alloc (Nat.le_refl _) (.cells #[.int .i64 o.1, .string o.2.1, .string o.2.2] 85))
            have hbw := hB3.size
            have hsz3 : (w2.alloc (.cells #[.int .i64 o.1, .string o.2.1, .string o.2.2] 85)).heap.size = w2.heap.size + 1 := by simp
            have hoc := one_ord_cells (w2.alloc (.cells #[.int .i64 o.1, .string o.2.1, .string o.2.2] 85)) o 85
            rw [hsz3] at hoc
            have HOC := Hid.mk' hoc
            clear hb2 hB hB2 hO hO2 HG hsz3 hoc
            go_wp2_with (at_builtin; refine wpList_append_own _ rfl (.tmp 38) (.tmp 40) 24 rfl w1.heap.size 85 i0 (.agg #[.int .i64 0, .string ⟨#[]⟩, .string ⟨#[]⟩]) 3 40 Tryd.underlying24 hi hz0 hz1 hz2 rfl (by decide) _ _ _ rfl (hO3.2.2.alloc _) ⟨w2.heap.size + 1, 0, none⟩ 1 1 (ordVals [o]) rfl rfl HOC.out (ordVals_oneCell _) hc3 hc4 (le_alloc _ _ hbw) ?_)
            intro v3 w3 hown hgrow hnn
            obtain ⟨g2, cp2, hv, hO2⟩ := ownO_app hO3.1 hO3.2.1 hsmO hnn hown
            subst hv
            have hB2 : Below w1.heap.size w1 w3 := (hB3.alloc hbw _).grown hgrow (le_alloc _ _ hbw) (fun k e => by simp [Value.ownBlock] at e; have := hO3.lt; omega)
            have HO2 := Hid.mk' hO2
            clear hown hgrow hnn hO2 hO3 hB3
            go_wp2_with (at_builtin; fail)
            go_roundw
            case rel => exact ⟨j + 1, q, g2, cp2, acc ++ [o], by go_num, rfl, by go_num, by omega, hqq, hacc2.out, HO2.out, hB2, HNX.out⟩
            case measure => simp [intOf]; omega
        · have hjn : j = n := by omega
          have hR2 : R = some (acc, p) := by rw [← hr, hjn, Nat.sub_self, readOps]
          by_cases hpl : p = bs.length
          · have HOK := Hid.mk' (impl_opsOk g' 0 j cp acc wr hO.sl (fun o ho => Nat.le_trans (hacc o ho) (by omega)))
            have hpe : p = len := by omega
            cases hok : opsOk acc
            · rw [hok] at HOK
              have HF : Hid (getOps bs = none) := by show _ = _; rw [HRES.out, hR2]; simp [hok]
              clear hok hR2 hr hpl hjn
              subst hpe
              go_wp2_with fail
              refine HOK.out.mono ?_
              rintro e w2 ⟨rfl, hb2⟩
              have hB2 := hB.trans (hb2.mono hB.size)
              have hO4 := ownO_made w2 w1.heap.size hB2.size
              go_wp2_with fail
              go_ret2
              exact getPost_none hO4 (hB2.alloc hB2.size _) HF.out
            · rw [hok] at HOK
              have HF : Hid (getOps bs = some acc) := by show _ = _; rw [HRES.out, hR2]; simp [hok, hpl]
              clear hok hR2 hr hpl hjn
              subst hpe
              go_wp2_with fail
              refine HOK.out.mono ?_
              rintro e w2 ⟨rfl, hb2⟩
              have hO2 := hO.below hb2
              have hB2 := hB.trans (hb2.mono hB.size)
              go_wp2_with fail
              go_ret2
              rw [HF.out]
              exact ⟨g', j, cp, rfl, hO2, hB2⟩
          · have hpb : ¬ (p : Int) = (len : Int) := by omega
            have HF : Hid (getOps bs = none) := by show _ = _; rw [HRES.out, hR2]; simp [hpl]
            have hO4 := ownO_made wr w1.heap.size hB.size
            clear hR2 hr hpl hjn
            go_wp2_with fail
            go_ret2
            exact getPost_none hO4 (hB.alloc hB.size _) HF.out
end Go.Proofs.YtooiinicnkhlbaaDoor.ords
