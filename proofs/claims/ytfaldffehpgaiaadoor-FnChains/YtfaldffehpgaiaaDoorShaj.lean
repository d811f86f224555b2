/- What the draws of seals hand back: chains, and chains with one seal bent. What the draws of seals hand back: one seal bent. -/
import Derived.Test.YtfaldffehpgaiaaDoorShah
import Derived.Test.YtfaldffehpgaiaaDoorShai
namespace Go.Proofs.YtfaldffehpgaiaaDoor.seals
open Go Go.RowKit Go.Proofs.YtfaldffehpgaiaaDoor.base Go.Proofs.YtfaldffehpgaiaaDoor.pairs Go.Proofs.YtfaldffehpgaiaaDoor.tree Go.Proofs.YtfaldffehpgaiaaDoor.lay Go.Proofs.YtfaldffehpgaiaaDoor.draw
set_option linter.unusedVariables false
set_option linter.unusedSimpArgs false

structure Fresh1 (s : Seal) : Prop where
  no1 : 1 ≤ s.1
  no2 : s.1 ≤ 4
  first : s.1 = 1 → s.2.1 = dg []
  prev : s.2.1.size = 32
  sup : s.2.2.1.size = 32
  few : s.2.2.2.length ≤ 3
  all : ∀ r ∈ s.2.2.2, r.size = 32
structure Bent1 (s : Seal) : Prop where
  wf : (Lit.int .i64 s.1).wf = true
  first : s.1 = 1 → s.2.1 = dg [] ∨ s.2.1.size ≠ 32
  prev : s.2.1.size ≤ 32
  sup : s.2.2.1.size ≤ 32
  few : s.2.2.2.length ≤ 4
  all : ∀ r ∈ s.2.2.2, r.size ≤ 32
theorem Fresh1.bent {s : Seal} (h : Fresh1 s) : Bent1 s := ⟨WalkArith.wf_i64 (by have := h.no1; have := h.no2; omega), fun e => .inl (h.first e), by rw [h.prev]; omega, by rw [h.sup]; omega, by have := h.few; omega, fun r hr => by rw [h.all r hr]; omega⟩
theorem Bent1.same {s : Seal} (h : Bent1 s) : sealI s = sealOk s := by
  unfold sealI
  by_cases h1 : s.1 = 1
  · rcases h.first h1 with e | e
    · rw [decide_eq_true e]; simp
    · have : sealOk s = false := by
        unfold sealOk
        rw [decide_eq_false e]; simp
      rw [this]; rfl
  · rw [decide_eq_false h1]; simp
theorem bent_mod {l : List Seal} (h : ∀ s ∈ l, Bent1 s) : Mod l := fun s hs => by
  have h1 := h s hs
  have h2 := h1.prev
  have h3 := h1.sup
  have h4 := h1.few
  have h5 := sum_le h1.all h4
  exact ⟨by omega, by omega, by omega⟩
theorem prev_32 {l : List Seal} (h : ∀ s ∈ l, Fresh1 s) : (prevOf l).size = 32 := by
  by_cases h0 : 0 < l.length
  · rw [prevOf_some h0]; exact (h _ (List.getElem_mem _)).sup
  · have : l = [] := List.eq_nil_of_length_eq_zero (by omega)
    subst this
    rw [prevOf_nil, dg_32]
section
variable {α : Type} {ty : TypeId} {R : Rd α} {w0 w wr w' : World} {gc : Nat} {a : Option Addr} {len cap : Nat} {code : List UInt8} {g n c : Nat} {l : List α} {q : Parts}
theorem Drawn.aside {X : Nat} (h : Drawn ty R w0 w wr gc a len cap code g n c l q) (hg : wr.grownBy w' (some X)) (hX : w.heap.size ≤ X) (hn : X ∉ g :: blocksOf q) : Drawn ty R w0 w w' gc a len cap code g n c l q := by
  have hlt := h.lt
  have hge := h.cur.ge
  exact ⟨h.own.keep (fun k hk => hg.block k (h.own.at_ k hk) (fun e => hn (by cases e; simpa [Value.ownBlock] using hk))), h.new, h.cur.grown hg (fun e => by cases e; omega) (fun k e => by cases e; omega), h.lt, grown_own h.grown hg hX⟩
theorem Drawn.put (h : Drawn ty R w0 w wr gc a len cap code g n c l q) (i : Nat) (hi : i < l.length) (us : List Value) (x : α) (F : List Nat) (hx : R.own wr us x F) (hF : ∀ b ∈ F, b ∉ g :: blocksOf q) (hnew : ∀ b ∈ F, w.heap.size ≤ b) :
    Drawn ty R w0 w (putAll wr g (i * R.size) us) gc a len cap code g n c (l.set i x) (q.set i (us, F)) := by
  obtain ⟨h1, h2⟩ := h.own.put i hi us x F hx hF
  have hng := h.new g (by simp)
  have hlt := h.lt
  have hge := h.cur.ge
  refine ⟨h1, fun b hb => ?_, h.cur.grown h2 (fun e => by cases e; omega) (fun k e => by cases e; omega), h.lt, grown_own h.grown h2 hng⟩
  rcases List.mem_cons.1 hb with e | e
  · rw [e]; exact hng
  · obtain ⟨p, hp, hbp⟩ := List.mem_flatMap.1 e
    rcases List.mem_or_eq_of_mem_set hp with h3 | h3
    · exact h.new b (List.mem_cons_of_mem _ (List.mem_flatMap.2 ⟨p, h3, hbp⟩))
    · subst h3; exact hnew b hbp
end
def GotSeals (w0 w : World) (gc : Nat) (a : Option Addr) (len cap : Nat) (code : List UInt8) (P : Seal → Prop) (e : Ending) (w' : World) : Prop :=
  ∃ g n c l q, e = .returned (.slice (some ⟨g, 0, none⟩) n c) ∧ Drawn 29 sealR w0 w w' gc a len cap code g n c l q ∧ l.length ≤ 3 ∧ ∀ s ∈ l, P s
set_option maxRecDepth 100000 in
set_option maxHeartbeats 4000000 in
theorem d_draw (w0 w : World) (gc : Nat) (a : Option Addr) (len cap : Nat) (code : List UInt8) (h : Cur w0 w gc a len cap code) :
    Calls Tryd.prog 40 #[.pointer (some ⟨gc, 0, none⟩)] w fun e w' => GotSeals w0 w gc a len cap code Fresh1 e w' := by
  obtain ⟨wa, hwa⟩ : ∃ wa, w.alloc (.cells #[] 29) = wa := ⟨_, rfl⟩
  have hba : Below w.heap.size w wa := by rw [← hwa]; exact below_make
  have hO0 : OwnG 29 sealR wa (.slice (some ⟨w.heap.size, 0, none⟩) 0 0) [] [] := by rw [← hwa]; exact ownG_made _ _ _
  have hD0 : Drawn 29 sealR w0 w wa gc a len cap code w.heap.size 0 0 [] [] := ⟨hO0, fun b hb => by simp [blocksOf] at hb; omega, h.below hba, h.lt, by rw [← hwa]; exact grown_alloc0 w _ _⟩
  have HWA := Hid.mk' hwa
  have HBL := Hid.mk' (below_ w0 wa gc a len cap code 4 hD0.cur (by omega) (by omega))
  clear hwa hO0 hba
  go_enter Tryd.func40, Tryd.ntmps40
  go_wp2_with fail
  rw [HWA.out]
  refine HBL.out.mono ?_
  rintro e w1 ⟨x, hx, rfl, hc1, hg1⟩
  have hD1 := hD0.step hc1 hg1
  clear HWA HBL hc1 hg1 hD0
  go_wp2_with fail
  go_loopw [3, 4] (fun v i wr => ∃ (k g n c : Nat) (l : List Seal) (q : Parts), v = .slice (some ⟨g, 0, none⟩) n c ∧ i = .int .i64 (k : Int) ∧ k + l.length ≤ 3 ∧ (∀ s ∈ l, Fresh1 s) ∧ Drawn 29 sealR w0 w wr gc a len cap code g n c l q) (fun _ i _ => (intOf i).toNat)
  case atStart => exact ⟨x, _, _, _, [], [], rfl, by go_num, by simp; omega, fun r hr => absurd hr List.not_mem_nil, hD1⟩
  case round =>
    clear hD1
    obtain ⟨k, g, n, c, l, q, rfl, rfl, hk, hfr, hD⟩ := hrel
    by_cases hlt : 0 < k
    · have hki : (0 : Int) < (k : Int) := by omega
      have HFR := Hid.mk' hfr
      have hp32 := prev_32 hfr
      have hln := hD.lens
      have HPV := Hid.mk' (spec_prev _ n c l wr hD.own.sl)
      have hnn : n ≤ 2 := by omega
      have HLN := Hid.mk' hln.1
      have hf0 : Hid ((n : Int) + 1 = 1 → prevOf l = dg []) := fun e => by
        have : l = [] := List.eq_nil_of_length_eq_zero (by omega)
        rw [this, prevOf_nil]
      generalize prevOf l = pv at *
      have HDD := Hid.mk' hD
      clear hfr hln hD
      go_wp2_with fail
      refine HPV.out.mono ?_
      rintro e w2 ⟨rfl, hb2⟩
      have hD2 := HDD.out.below hb2
      clear HPV hb2 HDD
      go_wp2_with fail
      refine (d_roots w0 _ gc a len cap code hD2.cur).mono ?_
      rintro e w3 ⟨g3, n3, c3, rs, q3, rfl, hR3, hr3, h32⟩
      have hD3 := hD2.step hR3.cur hR3.grown
      have HL2 : Hid (∀ b ∈ g :: blocksOf q, b < w2.heap.size) := fun b hb => hD2.own.at_ b (by simpa [Value.ownBlock] using hb)
      have HL3 : Hid (∀ b ∈ g3 :: blocksOf q3, b < w3.heap.size) := fun b hb => hR3.own.at_ b (by simpa [Value.ownBlock] using hb)
      have HS2 : Hid (w.heap.size ≤ w2.heap.size) := hD2.grown.size
      have hsz3 := hR3.grown.size
      have HS3 : Hid (w.heap.size ≤ w3.heap.size) := hD3.grown.size
      obtain ⟨V, hV⟩ : ∃ V, w3.alloc (.cells #[.int .i64 ((n : Int) + 1), .string pv, .string ⟨#[]⟩, .slice (some ⟨g3, 0, none⟩) n3 c3] 29) = V := ⟨_, rfl⟩
      have hbv : Below w3.heap.size w3 V := by rw [← hV]; exact below_make
      have hXV : BoxIn w3.heap.size 29 [] [.int .i64 ((n : Int) + 1), .string pv, .string ⟨#[]⟩, .slice (some ⟨g3, 0, none⟩) n3 c3] [] V := by rw [← hV]; exact boxIn_new w3 _ _
      have hD4 := hD3.below hbv
      have hR4 := hR3.below hbv
      have hwn : (Lit.int .i64 ((n : Int) + 1)).wf = true := WalkArith.wf_i64 (by omega)
      have hS4 : SlS V (some ⟨g3, 0, none⟩) n3 rs := (texts_see.1 (textsR.ownSee (own_mk hR4.own))).1
      have hsl := sum_le (n := 3) (fun r hr => by rw [h32 r hr]; omega) hr3
      have HSU := Hid.mk' (spec_superOf ((n : Int) + 1) pv (some ⟨g3, 0, none⟩) n3 c3 rs V hS4 hwn (by omega) (by omega))
      have hso := super_32 ((n : Int) + 1) pv rs
      generalize superOf ((n : Int) + 1) pv rs = so at *
      have HV := Hid.mk' hV
      have HNEW : Hid (∀ b ∈ g3 :: blocksOf q3, w2.heap.size ≤ b) := hR3.new
      have HDR := Hid.mk' hR4
      have HD4 := Hid.mk' hD4
      clear hD2 hD3 hV hS4 hR3 hR4 hD4
      go_wp2_with fail
      rw [HV.out]
      refine HSU.out.mono ?_
      rintro e w5 ⟨rfl, hb5⟩
      have hX5 := hXV.below hb5
      have hD5 := HD4.out.below hb5
      have hR5 := HDR.out.below hb5
      obtain ⟨z0, z1, z2, z3⟩ := box4 hX5
      have f2 := hX5.fz 2
      have nn := hX5.set 2 (by simp) (.string so)
      simp only [List.length_nil, Nat.zero_add, List.set_cons_succ, List.set_cons_zero] at nn
      obtain ⟨U, hU⟩ : ∃ U, w5.setCell ⟨w3.heap.size, 2, none⟩ (.string so) = U := ⟨_, rfl⟩
      rw [hU] at nn
      have hl2 : ∀ b ∈ g :: blocksOf q, b < w2.heap.size := HL2.out
      have hD6 : Drawn 29 sealR w0 w U gc a len cap code g n c l q := hD5.aside nn.2 (by have := hD5.grown.size; have := HS3.out; omega) (fun hb => by have := hl2 _ hb; omega)
      have hR6 : Drawn 9 str w0 w2 U gc a len cap code g3 n3 c3 rs q3 := hR5.aside nn.2 hsz3 (fun hb => by have := HL3.out _ hb; omega)
      obtain ⟨V2, hV2⟩ : ∃ V2, U.alloc (.cells #[.int .i64 ((n : Int) + 1), .string pv, .string so, .slice (some ⟨g3, 0, none⟩) n3 c3] 29) = V2 := ⟨_, rfl⟩
      have hbu : Below U.heap.size U V2 := by rw [← hV2]; exact below_make
      have hXU : BoxIn U.heap.size 29 [] [.int .i64 ((n : Int) + 1), .string pv, .string so, .slice (some ⟨g3, 0, none⟩) n3 c3] [] V2 := by rw [← hV2]; exact boxIn_new U _ _
      rw [show U.heap.size = w5.heap.size by rw [← hU]; simp] at hXU
      have hD7 := hD6.below hbu
      have hR7 := hR6.below hbu
      have hxs : sealR.own V2 [.int .i64 ((n : Int) + 1), .string pv, .string so, .slice (some ⟨g3, 0, none⟩) n3 c3] ((n : Int) + 1, pv, so, rs) (g3 :: blocksOf q3) := seal_own.2 ⟨_, rfl, hwn, by show pv.size ≤ maxLen; rw [hp32]; unfold maxLen; omega, by show so.size ≤ maxLen; rw [hso]; unfold maxLen; omega, own_mk hR7.own⟩
      have hln := hD7.lens
      obtain ⟨g', cap', w6, hrun, hO6, hgr, hat⟩ := cos.OwnG.appRun (P := Tryd.prog) (z := .agg #[.int .i64 0, .string ⟨#[]⟩, .string ⟨#[]⟩, .slice none 0 0]) Tryd.underlying24 infoSeal rfl (by decide) hD7.own hxs (fun b hb hc => by
        have h1 := HNEW.out b hb
        have h2 := hl2 b (by simpa [Value.ownBlock] using hc)
        omega) hXU (by unfold maxLen; omega) (by omega) 24
      have hD8 := hD7.app hO6 hgr hat (fun b hb => by have h1 := HNEW.out b hb; have h2 := HS2.out; omega)
      have HF8 : Hid (∀ s ∈ l ++ [((n : Int) + 1, pv, so, rs)], Fresh1 s) := fun s hs => by
        rcases List.mem_append.1 hs with e | e
        · exact HFR.out s e
        · rw [List.mem_singleton.1 e]
          exact ⟨by show (1 : Int) ≤ (n : Int) + 1; omega, by show (n : Int) + 1 ≤ 4; omega, hf0.out, hp32, hso, hr3, h32⟩
      have HU := Hid.mk' hU
      have HV2 := Hid.mk' hV2
      have HD8 := Hid.mk' hD8
      obtain ⟨y0, y1, y2, y3⟩ := box4 nn.1
      rw [← HU.out] at y0 y1 y2 y3
      clear hU hV2 hD8 hD7 hD6 hR6 hR7 hxs hXU hbu hO6 hgr hat nn hD5 hR5 hX5 hXV hln hl2
      go_wp2_with (at_builtin; rw [HU.out, HV2.out]; refine cos.wpList_append_run rfl (.tmp 29) (.tmp 31) 24 rfl (by kernel_rfl) (by kernel_rfl) hrun ?_)
      go_roundw
      case rel => exact ⟨k - 1, g', _, cap', _, _, rfl, by go_num, by simp; omega, HF8.out, HD8.out⟩
      case measure => simp [intOf]; omega
    · have hki : ¬ (0 : Int) < (k : Int) := by omega
      go_wp2_with fail
      go_ret
      exact ⟨g, n, c, l, q, rfl, hD, by omega, hfr⟩
end Go.Proofs.YtfaldffehpgaiaaDoor.seals

namespace Go.Proofs.YtfaldffehpgaiaaDoor.seals
open Go Go.RowKit Go.Proofs.YtfaldffehpgaiaaDoor.base Go.Proofs.YtfaldffehpgaiaaDoor.pairs Go.Proofs.YtfaldffehpgaiaaDoor.tree Go.Proofs.YtfaldffehpgaiaaDoor.lay Go.Proofs.YtfaldffehpgaiaaDoor.draw
set_option linter.unusedVariables false
set_option linter.unusedSimpArgs false

structure BSt (w0 w wr : World) (gc : Nat) (a : Option Addr) (len cap : Nat) (code : List UInt8) (vs : List Value) (g n c : Nat) (rs : List ByteArray) (q : Parts) : Prop where
  box : BoxIn w.heap.size 29 [] vs [] wr
  ret : BoxIn (w.heap.size + 1) 29 [] [.int .i64 0, .string ⟨#[]⟩, .string ⟨#[]⟩, .slice none 0 0] [] wr
  dr : Drawn 9 str w0 w wr gc a len cap code g n c rs q
  out : w.heap.size ∉ g :: blocksOf q ∧ w.heap.size + 1 ∉ g :: blocksOf q
section
variable {w0 w wr w' : World} {gc : Nat} {a : Option Addr} {len cap : Nat} {code : List UInt8} {vs : List Value} {g n c : Nat} {rs : List ByteArray} {q : Parts}
theorem BSt.below (h : BSt w0 w wr gc a len cap code vs g n c rs q) (hb : Below wr.heap.size wr w') : BSt w0 w w' gc a len cap code vs g n c rs q := ⟨h.box.below hb, h.ret.below hb, h.dr.below hb, h.out⟩
theorem BSt.step (h : BSt w0 w wr gc a len cap code vs g n c rs q) (hc : Cur w0 w' gc a len cap code) (hg : wr.grownBy w' (some gc)) : BSt w0 w w' gc a len cap code vs g n c rs q := by
  have hlt := h.dr.lt
  exact ⟨h.box.grown hg (fun e => by cases e; omega), h.ret.grown hg (fun e => by cases e; omega), h.dr.step hc hg, h.out⟩
theorem BSt.set (h : BSt w0 w wr gc a len cap code vs g n c rs q) (j : Nat) (hj : j < vs.length) (u : Value) : BSt w0 w (wr.setCell ⟨w.heap.size, j, none⟩ u) gc a len cap code (vs.set j u) g n c rs q := by
  have h1 := h.box.set j hj u
  simp only [List.length_nil, Nat.zero_add] at h1
  exact ⟨h1.1, h.ret.grown h1.2 (by simp), h.dr.aside h1.2 (Nat.le_refl _) h.out.1, h.out⟩
theorem BSt.two (h : BSt w0 w wr gc a len cap code vs g n c rs q) : w.heap.size + 2 ≤ wr.heap.size := by have := h.ret.lt; omega
end
def GotBent (w0 w : World) (gc : Nat) (a : Option Addr) (len cap : Nat) (code : List UInt8) (e : Ending) (w' : World) : Prop :=
  ∃ us s F, e = .returned (.agg us.toArray) ∧ sealR.own w' us s F ∧ (∀ k ∈ F, w.heap.size ≤ k) ∧ Bent1 s ∧ Cur w0 w' gc a len cap code ∧ w.grownBy w' (some gc)
theorem none_str (w : World) (g c : Nat) (ty : TypeId) : (Builtin.append_ #[27, 27] ty #[.slice (some ⟨g, 0, none⟩) 0 0, .slice none 0 c]).run Tryd.prog w = .ok (.slice (some ⟨g, 0, none⟩) 0 0) w := by kernel_rfl
set_option maxRecDepth 100000 in
set_option maxHeartbeats 8000000 in
theorem d_bend (w0 w : World) (gc : Nat) (a : Option Addr) (len cap : Nat) (code : List UInt8) (s : Seal) (ra : Option Addr) (rn rc : Nat) (h : Cur w0 w gc a len cap code) (hs : Fresh1 s) (hS : SlG str w ra rn s.2.2.2) :
    Calls Tryd.prog 43 #[.pointer (some ⟨gc, 0, none⟩), .agg #[.int .i64 s.1, .string s.2.1, .string s.2.2.1, .slice ra rn rc]] w fun e w' => GotBent w0 w gc a len cap code e w' := by
  obtain ⟨no, pv, su, rs⟩ := s
  have HS := Hid.mk' hs
  simp only [] at hS ⊢
  have hno1 : (1 : Int) ≤ no := hs.no1
  have hno4 : no ≤ 4 := hs.no2
  have hpz : pv.size = 32 := hs.prev
  have hsz : su.size = 32 := hs.sup
  have hgl := h.lt
  have hrl := hS.1
  have hr3 : rs.length ≤ 3 := hs.few
  have hwn : (Lit.int .i64 no).wf = true := WalkArith.wf_i64 (by omega)
  have hpm : pv.size ≤ maxLen := by rw [hpz]; unfold maxLen; omega
  have hsm : su.size ≤ maxLen := by rw [hsz]; unfold maxLen; omega
  obtain ⟨W1, hW1⟩ : ∃ W, w.alloc (.cells #[.int .i64 no, .string pv, .string su, .slice ra rn rc] 29) = W := ⟨_, rfl⟩
  have hb1 : Below w.heap.size w W1 := by rw [← hW1]; exact below_make
  have hA1 : BoxIn w.heap.size 29 [] [.int .i64 no, .string pv, .string su, .slice ra rn rc] [] W1 := by rw [← hW1]; exact boxIn_new w _ _
  have hs1 : W1.heap.size = w.heap.size + 1 := by rw [← hW1]; simp
  obtain ⟨W2, hW2⟩ : ∃ W, W1.alloc (.cells #[.int .i64 0, .string ⟨#[]⟩, .string ⟨#[]⟩, .slice none 0 0] 29) = W := ⟨_, rfl⟩
  have hb2 : Below W1.heap.size W1 W2 := by rw [← hW2]; exact below_make
  have hR2 : BoxIn (w.heap.size + 1) 29 [] [.int .i64 0, .string ⟨#[]⟩, .string ⟨#[]⟩, .slice none 0 0] [] W2 := by rw [← hW2, ← hs1]; exact boxIn_new W1 _ _
  have hs2 : W2.heap.size = w.heap.size + 2 := by rw [← hW2]; simp [hs1]
  obtain ⟨W3, hW3⟩ : ∃ W, W2.alloc (.cells #[] 9) = W := ⟨_, rfl⟩
  have hb3 : Below W2.heap.size W2 W3 := by rw [← hW3]; exact below_make
  have hO3 : OwnG 9 str W3 (.slice (some ⟨W2.heap.size, 0, none⟩) 0 0) [] [] := by rw [← hW3]; exact ownG_made _ _ _
  rw [hs2] at hO3
  have hB3 : Below w.heap.size w W3 := (hb1.trans (hb2.mono hb1.size)).trans (hb3.mono (by omega))
  have hG3 : w.grownBy W3 (some gc) := grown_below (World.grownBy.refl _ _) hB3
  have hA3 := (hA1.below hb2).below hb3
  have hR3 := hR2.below hb3
  have HW3 : Hid (((w.alloc (.cells #[.int .i64 no, .string pv, .string su, .slice ra rn rc] 29)).alloc (.cells #[.int .i64 0, .string ⟨#[]⟩, .string ⟨#[]⟩, .slice none 0 0] 29)).alloc (.cells #[] 9) = W3) := by show _ = _; rw [hW1, hW2, hW3]
  obtain ⟨g, c, w4, hrun, hO4, hgr, hat⟩ := cos.Flat.copyRun (P := Tryd.prog) cos.flat_str (fun x u hu => by rw [List.mem_singleton.1 hu]; rfl) (by decide) (z := .string ⟨#[]⟩) Tryd.underlying27 infoStr rfl none_str (w.heap.size + 2) ra rn rc hO3.row (hS.below hB3) (by omega) 27
  have hgg : w.heap.size + 2 ≤ g := by
    have : W3.heap.size = w.heap.size + 2 + 1 := by rw [← hW3]; simp [hs2]
    rcases hat with e | e <;> omega
  have hq4 : blocksOf (rs.map fun x => ([Value.string x], ([] : List Nat))) = [] := by unfold blocksOf; rw [List.flatMap_map]; simp
  have hD4 : Drawn 9 str w0 w w4 gc a len cap code g rn c rs (rs.map fun x => ([Value.string x], [])) := ⟨hO4, fun b hb => by rw [hq4] at hb; have := List.mem_singleton.1 hb; omega, (h.below hB3).grown hgr (fun e => by cases e; omega) (fun k e => by have := h.bel.size; cases e; omega), hgl, grown_own hG3 hgr (by omega)⟩
  have hS4 : BSt w0 w w4 gc a len cap code [.int .i64 no, .string pv, .string su, .slice ra rn rc] g rn c rs (rs.map fun x => ([Value.string x], [])) := ⟨hA3.grown hgr (by simp), hR3.grown hgr (by simp), hD4, by rw [hq4]; simp; omega, by rw [hq4]; simp; omega⟩
  generalize (rs.map fun x => ([Value.string x], ([] : List Nat))) = q at *
  have hS5 := hS4.set 3 (by simp) (.slice (some ⟨g, 0, none⟩) rn c)
  simp only [List.set_cons_succ, List.set_cons_zero] at hS5
  obtain ⟨U, hU⟩ : ∃ U, w4.setCell ⟨w.heap.size, 3, none⟩ (.slice (some ⟨g, 0, none⟩) rn c) = U := ⟨_, rfl⟩
  rw [hU] at hS5
  have z3 := hS4.box.cell 3 _ rfl
  have f3 := hS4.box.fz 3
  have y3 := hA3.cell 3 _ rfl
  simp only [List.length_nil, Nat.zero_add] at z3 y3
  rw [← HW3.out] at y3
  have HU := Hid.mk' hU
  have HBL := Hid.mk' (below_ w0 U gc a len cap code 5 hS5.dr.cur (by omega) (by omega))
  have HS5 := Hid.mk' hS5
  clear hW1 hW2 hW3 hb1 hb2 hb3 hA1 hR2 hs1 hs2 hO3 hB3 hG3 hA3 hR3 hO4 hgr hat hq4 hD4 hS4 hS5 hU hS h hrl hs
  go_enter Tryd.func43, Tryd.ntmps43
  go_wp2_with (at_builtin; rw [HW3.out]; refine cos.wpList_append_run rfl (.tmp 5) (.tmp 7) 27 rfl (by kernel_rfl) (by kernel_rfl) hrun ?_)
  rw [HU.out]
  refine HBL.out.mono ?_
  rintro e w5 ⟨x, hx, rfl, hc5, hg5⟩
  have hS6 := HS5.out.step hc5 hg5
  have hx5 : x = 0 ∨ x = 1 ∨ x = 2 ∨ x = 3 ∨ x = 4 := by omega
  clear HBL hc5 hg5 hx HS5 hrun HU y3 z3 f3 HW3
  rcases hx5 with rfl | rfl | rfl | rfl | rfl
  · obtain ⟨V, hV⟩ : ∃ V, w5.alloc (.cells #[.int .i64 0, .int .i64 (no + 1), .int .i64 1001] 3) = V := ⟨_, rfl⟩
    have hbv : Below w5.heap.size w5 V := by rw [← hV]; exact below_make
    have hLv : V.heap[w5.heap.size]? = some (.cells #[.int .i64 0, .int .i64 (no + 1), .int .i64 1001] 3 (0, 0)) := by rw [← hV]; exact heap_alloc_new w5 _
    have hS7 := hS6.below hbv
    have h2 := hS6.two
    have HIN := Hid.mk' (int_ w0 V gc a len cap code w5.heap.size 3 3 _ _ hS7.dr.cur hLv rfl (by omega) (by omega) (by omega) (fun z => z = 0 ∨ z = no + 1 ∨ z = 1001) (fun i hi => by
      match i, hi with
      | 0, _ => exact ⟨_, rfl, .inl rfl⟩
      | 1, _ => exact ⟨_, rfl, .inr (.inl rfl)⟩
      | 2, _ => exact ⟨_, rfl, .inr (.inr rfl)⟩))
    obtain ⟨a0, a1, a2, a3⟩ := box4 hS6.box
    have HV := Hid.mk' hV
    clear hV hbv hLv hS6
    go_wp2_with fail
    rw [HV.out]
    refine HIN.out.mono ?_
    rintro e w6 ⟨z, hz, rfl, hc6, hg6⟩
    have hS8 := hS7.step hc6 hg6
    obtain ⟨b0, b1, b2, b3⟩ := box4 hS8.box
    have e0 := hS8.box.fz 0
    have hBz := hS8.set 0 (by simp) (.int .i64 z)
    simp only [List.set_cons_succ, List.set_cons_zero] at hBz
    have hzw : (Lit.int .i64 z).wf = true := WalkArith.wf_i64 (by omega)
    have hz1 : z ≠ 1 := by omega
    clear a0 a1 a2 a3 hS7 HIN HV hc6 hg6 hS8 hz
    obtain ⟨y0, y1, y2, y3⟩ := box4 hBz.box
    obtain ⟨z0, z1, z2, z3⟩ := box4 hBz.ret
    have f0 := hBz.ret.fz 0
    have f1 := hBz.ret.fz 1
    have f2 := hBz.ret.fz 2
    have f3 := hBz.ret.fz 3
    have hSz := hBz.ret.whole [.int .i64 z, .string pv, .string su, .slice (some ⟨g, 0, none⟩) rn c] rfl
    obtain ⟨u0, u1, u2, u3⟩ := box4 hSz.1
    simp only [putAll, Nat.zero_add, Nat.reduceAdd] at u0 u1 u2 u3
    have HDz := Hid.mk' (hBz.dr.aside hSz.2 (by omega) hBz.out.2)
    simp only [putAll, Nat.zero_add, Nat.reduceAdd] at HDz
    have HBE : Hid (Bent1 (z, pv, su, rs)) := ⟨hzw, fun e => absurd e hz1, by show pv.size ≤ 32; omega, by show su.size ≤ 32; omega, by show rs.length ≤ 4; omega, fun r hr => by rw [HS.out.all r hr]; omega⟩
    clear hSz hBz
    go_wp2_with fail
    refine bodyPost_ret (v := .agg #[.int .i64 z, .string pv, .string su, .slice (some ⟨g, 0, none⟩) rn c]) ?_ rfl ⟨[.int .i64 z, .string pv, .string su, .slice (some ⟨g, 0, none⟩) rn c], (z, pv, su, rs), _, rfl, seal_own.2 ⟨_, rfl, hzw, hpm, hsm, own_mk HDz.out.own⟩, fun k hk => HDz.out.new k hk, HBE.out, HDz.out.cur, HDz.out.grown⟩
    simp [results, Tryd.results43, go_sem, u0, u1, u2, u3]
  · obtain ⟨V, hV⟩ : ∃ V, w5.alloc (.cells #[.string ⟨#[]⟩, .string ⟨#[120]⟩] 9) = V := ⟨_, rfl⟩
    have hbv : Below w5.heap.size w5 V := by rw [← hV]; exact below_make
    have hLv : V.heap[w5.heap.size]? = some (.cells #[.string ⟨#[]⟩, .string ⟨#[120]⟩] 9 (0, 0)) := by rw [← hV]; exact heap_alloc_new w5 _
    have hS7 := hS6.below hbv
    have h2 := hS6.two
    have HIN := Hid.mk' (str_ w0 V gc a len cap code w5.heap.size 2 2 _ _ hS7.dr.cur hLv rfl (by omega) (by omega) (by omega) (fun z => z.size ≤ 1) (fun i hi => by
      match i, hi with
      | 0, _ => exact ⟨_, rfl, by decide⟩
      | 1, _ => exact ⟨_, rfl, by decide⟩))
    have HV := Hid.mk' hV
    clear hV hbv hLv hS6
    go_wp2_with fail
    rw [HV.out]
    refine HIN.out.mono ?_
    rintro e w6 ⟨z, hz, rfl, hc6, hg6⟩
    have hS8 := hS7.step hc6 hg6
    obtain ⟨b0, b1, b2, b3⟩ := box4 hS8.box
    have e1 := hS8.box.fz 1
    have hBz := hS8.set 1 (by simp) (.string z)
    simp only [List.set_cons_succ, List.set_cons_zero] at hBz
    have hzm : z.size ≤ maxLen := by unfold maxLen; omega
    clear hS7 HIN HV hc6 hg6 hS8
    obtain ⟨y0, y1, y2, y3⟩ := box4 hBz.box
    obtain ⟨z0, z1, z2, z3⟩ := box4 hBz.ret
    have f0 := hBz.ret.fz 0
    have f1 := hBz.ret.fz 1
    have f2 := hBz.ret.fz 2
    have f3 := hBz.ret.fz 3
    have hSz := hBz.ret.whole [.int .i64 no, .string z, .string su, .slice (some ⟨g, 0, none⟩) rn c] rfl
    obtain ⟨u0, u1, u2, u3⟩ := box4 hSz.1
    simp only [putAll, Nat.zero_add, Nat.reduceAdd] at u0 u1 u2 u3
    have HDz := Hid.mk' (hBz.dr.aside hSz.2 (by omega) hBz.out.2)
    simp only [putAll, Nat.zero_add, Nat.reduceAdd] at HDz
    have HBE : Hid (Bent1 (no, z, su, rs)) := ⟨hwn, fun _ => .inr (by show z.size ≠ 32; omega), by show z.size ≤ 32; omega, by show su.size ≤ 32; omega, by show rs.length ≤ 4; omega, fun r hr => by rw [HS.out.all r hr]; omega⟩
    clear hSz hBz
    go_wp2_with fail
    refine bodyPost_ret (v := .agg #[.int .i64 no, .string z, .string su, .slice (some ⟨g, 0, none⟩) rn c]) ?_ rfl ⟨[.int .i64 no, .string z, .string su, .slice (some ⟨g, 0, none⟩) rn c], (no, z, su, rs), _, rfl, seal_own.2 ⟨_, rfl, hwn, hzm, hsm, own_mk HDz.out.own⟩, fun k hk => HDz.out.new k hk, HBE.out, HDz.out.cur, HDz.out.grown⟩
    simp [results, Tryd.results43, go_sem, u0, u1, u2, u3]
  · obtain ⟨V, hV⟩ : ∃ V, w5.alloc (.cells #[.int .u8 9] 5) = V := ⟨_, rfl⟩
    have hbv : Below w5.heap.size w5 V := by rw [← hV]; exact below_make
    have hO : Own V w5.heap.size w5.heap.size 1 1 [9] := by rw [← hV]; exact own_one w5 9 9 rfl w5.heap.size (Nat.le_refl _)
    have hS7 := hS6.below hbv
    have HIN := Hid.mk' (sha.spec_digest w5.heap.size 0 1 1 [9] V hO.sl (by omega))
    have hd32 := dg_32 [9]
    unfold dg at hd32
    generalize (⟨(sha.digest [9]).toArray⟩ : ByteArray) = z at *
    have HV := Hid.mk' hV
    clear hV hbv hO hS6
    go_wp2_with fail
    rw [HV.out]
    refine HIN.out.mono ?_
    rintro e w6 ⟨rfl, hb6⟩
    have hS8 := hS7.below hb6
    obtain ⟨b0, b1, b2, b3⟩ := box4 hS8.box
    have e2 := hS8.box.fz 2
    have hBz := hS8.set 2 (by simp) (.string z)
    simp only [List.set_cons_succ, List.set_cons_zero] at hBz
    have hzm : z.size ≤ maxLen := by unfold maxLen; omega
    clear hS7 HIN HV hb6 hS8
    obtain ⟨y0, y1, y2, y3⟩ := box4 hBz.box
    obtain ⟨z0, z1, z2, z3⟩ := box4 hBz.ret
    have f0 := hBz.ret.fz 0
    have f1 := hBz.ret.fz 1
    have f2 := hBz.ret.fz 2
    have f3 := hBz.ret.fz 3
    have hSz := hBz.ret.whole [.int .i64 no, .string pv, .string z, .slice (some ⟨g, 0, none⟩) rn c] rfl
    obtain ⟨u0, u1, u2, u3⟩ := box4 hSz.1
    simp only [putAll, Nat.zero_add, Nat.reduceAdd] at u0 u1 u2 u3
    have HDz := Hid.mk' (hBz.dr.aside hSz.2 (by omega) hBz.out.2)
    simp only [putAll, Nat.zero_add, Nat.reduceAdd] at HDz
    have HBE : Hid (Bent1 (no, pv, z, rs)) := ⟨hwn, fun e => .inl (HS.out.first e), by show pv.size ≤ 32; omega, by show z.size ≤ 32; omega, by show rs.length ≤ 4; omega, fun r hr => by rw [HS.out.all r hr]; omega⟩
    clear hSz hBz
    go_wp2_with fail
    refine bodyPost_ret (v := .agg #[.int .i64 no, .string pv, .string z, .slice (some ⟨g, 0, none⟩) rn c]) ?_ rfl ⟨[.int .i64 no, .string pv, .string z, .slice (some ⟨g, 0, none⟩) rn c], (no, pv, z, rs), _, rfl, seal_own.2 ⟨_, rfl, hwn, hpm, hzm, own_mk HDz.out.own⟩, fun k hk => HDz.out.new k hk, HBE.out, HDz.out.cur, HDz.out.grown⟩
    simp [results, Tryd.results43, go_sem, u0, u1, u2, u3]
  · have hd32 := dg_32 [1]
    unfold dg at hd32
    have HDG := Hid.mk' (fun wx gx (hO : Own wx w.heap.size gx 1 1 [1]) => sha.spec_digest gx 0 1 1 [1] wx hO.sl (by omega))
    generalize (⟨(sha.digest [1]).toArray⟩ : ByteArray) = d at *
    have hdW : Below w5.heap.size w5 w5.drew := (Below.refl _ _).drew
    have hSD := hS6.below hdW
    go_wp2_with fail
    refine last.wp_region_later (S := fun w' => BoxIn w.heap.size 29 [] [.int .i64 no, .string pv, .string su, .slice (some ⟨g, 0, none⟩) rn c] [] w') 10 (by kernel_rfl) hSD.box (fun hHeld0 => ?_)
    generalize hD : w5.drew = D at *
    clear hD hdW hS6
    refine last.wpAnyL_take (i := 0) (v := (.pointer (some ⟨w.heap.size, 3, none⟩))) rfl rfl (by kernel_rfl) (by kernel_rfl) (by kernel_rfl) (by kernel_rfl) (fun _ _ _ h => h) (Or.inl ⟨by rfl, ?_⟩) (by assumption) ?_
    · intro wq hSq; go_simp
    try simp only [Act.put, List.setIfInBounds_toArray, List.set_cons_zero, List.set_cons_succ]
    refine last.wpAnyL_take (i := 1) (v := (.slice (some ⟨g, 0, none⟩) rn c)) rfl rfl (by kernel_rfl) (by kernel_rfl) (by kernel_rfl) (by kernel_rfl) (fun _ _ _ h => h) (Or.inl ⟨by rfl, ?_⟩) (by assumption) ?_
    · intro wq hSq; have q := (box4 hSq).2.2.2; go_simp
    try simp only [Act.put, List.setIfInBounds_toArray, List.set_cons_zero, List.set_cons_succ]
    refine last.wpAnyL_take (i := 2) (v := (.pointer (some ⟨gc, 0, none⟩))) rfl rfl (by kernel_rfl) (by kernel_rfl) (by kernel_rfl) (by kernel_rfl) (fun _ _ _ h => h) (Or.inl ⟨by rfl, ?_⟩) (by assumption) ?_
    · intro wq hSq; go_simp
    try simp only [Act.put, List.setIfInBounds_toArray, List.set_cons_zero, List.set_cons_succ]
    refine last.wpAnyL_one (i := 3) (o := { dst := some 37, op := Op.buildSlice 22 1 #[(0, Operand.const (Value.int IntKind.u8 1))], type := 22, pos := "l15_seal.go:81", after := #[], guard := none }) (by kernel_rfl) rfl (fun K hK => ?_)
    go_simp
    obtain ⟨V1, hV1⟩ : ∃ V, D.alloc (.cells #[.int .u8 1] 5) = V := ⟨_, rfl⟩
    have hbv1 : Below D.heap.size D V1 := by rw [← hV1]; exact below_make
    have h2 := hSD.two
    have hOv : Own V1 w.heap.size D.heap.size 1 1 [1] := by rw [← hV1]; exact own_one D 1 1 rfl w.heap.size (by omega)
    have hS1 := hSD.below hbv1
    rw [hV1]
    refine hK.out _ _ ?_ (fun hHeld => ?_)
    · exact hS1.box
    clear hK K hHeld0
    have hHeld0 := hHeld
    clear hHeld
    try simp only [Act.put, List.setIfInBounds_toArray, List.set_cons_zero, List.set_cons_succ]
    refine last.wpAnyL_one (i := 4) (o := { dst := some 38, op := Op.call { callee := Callee.value (Operand.func 35), args := #[Operand.tmp 37], argTypes := #[22] }, type := 9, pos := "l15_seal.go:81", after := #[{ on := 3, ground := Ground.data }], guard := none }) (by kernel_rfl) rfl (fun K hK => ?_)
    refine stepg.call1 rfl 35 (.tmp 37) _ rfl (fun _ _ => rfl) (.slice (some ⟨D.heap.size, 0, none⟩) 1 1) (by kernel_rfl) _ (HDG.out V1 _ hOv) ?_
    rintro e w6 ⟨rfl, hb6⟩
    refine ⟨_, rfl, ?_⟩
    have hS2 := hS1.below hb6
    refine hK.out _ _ ?_ (fun hHeld => ?_)
    · exact hS2.box
    clear hK K hHeld0
    have hHeld0 := hHeld
    clear hHeld
    try simp only [Act.put, List.setIfInBounds_toArray, List.set_cons_zero, List.set_cons_succ]
    refine last.wpAnyL_one (i := 5) (o := { dst := some 39, op := Op.buildSlice 27 2 #[(0, Operand.const (Value.string { data := #[] })), (1, Operand.tmp 38)], type := 27, pos := "l15_seal.go:81", after := #[{ on := 4, ground := Ground.data }], guard := none }) (by kernel_rfl) rfl (fun K hK => ?_)
    go_simp
    obtain ⟨V2, hV2⟩ : ∃ V, w6.alloc (.cells #[.string ⟨#[]⟩, .string d] 9) = V := ⟨_, rfl⟩
    have hbv2 : Below w6.heap.size w6 V2 := by rw [← hV2]; exact below_make
    have hLv : V2.heap[w6.heap.size]? = some (.cells #[.string ⟨#[]⟩, .string d] 9 (0, 0)) := by rw [← hV2]; exact heap_alloc_new w6 _
    have hS3 := hS2.below hbv2
    have h3 := hS2.two
    rw [hV2]
    refine hK.out _ _ ?_ (fun hHeld => ?_)
    · exact hS3.box
    clear hK K hHeld0
    have hHeld0 := hHeld
    clear hHeld
    try simp only [Act.put, List.setIfInBounds_toArray, List.set_cons_zero, List.set_cons_succ]
    refine last.wpAnyL_one (i := 6) (o := { dst := some 40, op := Op.call { callee := Callee.value (Operand.func 62), args := #[Operand.tmp 36, Operand.tmp 39], argTypes := #[41, 27] }, type := 9, pos := "l15_seal.go:81", after := #[{ on := 2, ground := Ground.data }, { on := 5, ground := Ground.data }, { on := 4, ground := Ground.chain }], guard := none }) (by kernel_rfl) rfl (fun K hK => ?_)
    refine stepg.call2 rfl 62 (.tmp 36) (.tmp 39) _ rfl (fun _ _ => rfl) (.pointer (some ⟨gc, 0, none⟩)) (.slice (some ⟨w6.heap.size, 0, none⟩) 2 2) (by kernel_rfl) (by kernel_rfl) _ (str_ w0 V2 gc a len cap code w6.heap.size 2 2 _ _ hS3.dr.cur hLv rfl (by omega) (by omega) (by omega) (fun z => z.size ≤ 32) (fun i hi => by
      match i, hi with
      | 0, _ => exact ⟨_, rfl, by decide⟩
      | 1, _ => exact ⟨_, rfl, Nat.le_of_eq hd32⟩)) ?_
    rintro e w7 ⟨z, hz, rfl, hc7, hg7⟩
    refine ⟨_, rfl, ?_⟩
    have hS4 := hS3.step hc7 hg7
    refine hK.out _ _ ?_ (fun hHeld => ?_)
    · exact hS4.box
    clear hK K hHeld0
    have hHeld0 := hHeld
    clear hHeld
    try simp only [Act.put, List.setIfInBounds_toArray, List.set_cons_zero, List.set_cons_succ]
    refine last.wpAnyL_one (i := 7) (o := { dst := some 41, op := Op.buildSlice 27 1 #[(0, Operand.tmp 40)], type := 27, pos := "l15_seal.go:81", after := #[{ on := 6, ground := Ground.data }], guard := none }) (by kernel_rfl) rfl (fun K hK => ?_)
    go_simp
    obtain ⟨V3, hV3⟩ : ∃ V, w7.alloc (.cells #[.string z] 9) = V := ⟨_, rfl⟩
    have hbv3 : Below w7.heap.size w7 V3 := by rw [← hV3]; exact below_make
    have hX3 : BoxIn w7.heap.size 9 [] [.string z] [] V3 := by rw [← hV3]; exact boxIn_new w7 _ _
    have hS5 := hS4.below hbv3
    rw [hV3]
    refine hK.out _ _ ?_ (fun hHeld => ?_)
    · exact hS5.box
    clear hK K hHeld0
    have hHeld0 := hHeld
    clear hHeld
    try simp only [Act.put, List.setIfInBounds_toArray, List.set_cons_zero, List.set_cons_succ]
    refine last.wpAnyL_one (i := 8) (o := { dst := some 42, op := Op.call { callee := Callee.builtin Builtin.append, args := #[Operand.tmp 35, Operand.tmp 41], argTypes := #[27, 27] }, type := 27, pos := "l15_seal.go:81", after := #[{ on := 1, ground := Ground.data }, { on := 7, ground := Ground.data }, { on := 6, ground := Ground.chain }], guard := none }) (by kernel_rfl) rfl (fun K hK => ?_)
    have hzm : z.size ≤ maxLen := by unfold maxLen; omega
    have hxs : str.own V3 [.string z] z [] := ⟨⟨rfl, hzm⟩, rfl⟩
    obtain ⟨g', cap', w8, hrun, hO8, hgr, hat⟩ := cos.OwnG.appRun (P := Tryd.prog) (z := .string ⟨#[]⟩) Tryd.underlying27 infoStr rfl (by decide) hS5.dr.own hxs (fun b hb => absurd hb List.not_mem_nil) hX3 (by unfold maxLen; omega) (by omega) 27
    have hD8 := hS5.dr.app hO8 hgr hat (fun b hb => absurd hb List.not_mem_nil)
    have h5 := hS5.two
    have hgne : g' ≠ w.heap.size ∧ g' ≠ w.heap.size + 1 := by
      have ho := hS5.out
      rcases hat with e | e
      · have : g = g' := by simpa [Value.ownBlock] using e
        subst this
        exact ⟨fun e => ho.1 (by rw [e]; simp), fun e => ho.2 (by rw [e]; simp)⟩
      · omega
    have hgr' : V3.grownBy w8 (some g) := by simpa [Value.ownBlock] using hgr
    have hS8 : BSt w0 w w8 gc a len cap code [.int .i64 no, .string pv, .string su, .slice (some ⟨g, 0, none⟩) rn c] g' (rs.length + 1) cap' (rs ++ [z]) (q ++ [([.string z], [])]) := ⟨hS5.box.grown hgr' (fun e => hS5.out.1 (by cases e; simp)), hS5.ret.grown hgr' (fun e => hS5.out.2 (by cases e; simp)), hD8, by
      have ho := hS5.out
      rw [blocksOf_append]
      refine ⟨fun e => ?_, fun e => ?_⟩
      · rcases List.mem_cons.1 e with e | e
        · exact hgne.1 e.symm
        · exact ho.1 (List.mem_cons_of_mem _ (by simpa [blocksOf] using e))
      · rcases List.mem_cons.1 e with e | e
        · exact hgne.2 e.symm
        · exact ho.2 (List.mem_cons_of_mem _ (by simpa [blocksOf] using e))⟩
    refine cos.step_append_run rfl (.tmp 35) (.tmp 41) 27 rfl (by kernel_rfl) (by kernel_rfl) hrun ?_
    clear hrun hD8 hgr hgr' hat hgne hO8 hxs hX3 hbv3 hV3 hS5 hS4 hS3 hS2 hS1 hLv hbv2 hbv1 hOv hc7 hg7 hb6 hV1 hV2 HDG hSD
    refine hK.out _ _ ?_ (fun hHeld => ?_)
    · exact hS8.box
    clear hK K hHeld0
    have hHeld0 := hHeld
    clear hHeld
    try simp only [Act.put, List.setIfInBounds_toArray, List.set_cons_zero, List.set_cons_succ]
    refine last.wpAnyL_take (i := 9) (v := (.pointer (some ⟨w.heap.size, 3, none⟩))) rfl rfl (by kernel_rfl) (by kernel_rfl) (by kernel_rfl) (by kernel_rfl) (fun _ _ _ h => h) (Or.inl ⟨by rfl, ?_⟩) (by assumption) ?_
    · intro wq hSq; go_simp
    try simp only [Act.put, List.setIfInBounds_toArray, List.set_cons_zero, List.set_cons_succ]
    obtain ⟨k0, k1, k2, k3⟩ := box4 hS8.box
    have e3 := hS8.box.fz 3
    have hBz := hS8.set 3 (by simp) (.slice (some ⟨g', 0, none⟩) (rs.length + 1) cap')
    simp only [List.set_cons_succ, List.set_cons_zero] at hBz
    refine last.wpAnyL_last (o := { dst := none, op := Op.store 27 (Operand.tmp 43) (Operand.tmp 42), type := 0, pos := "l15_seal.go:81", after := #[{ on := 9, ground := Ground.data }, { on := 8, ground := Ground.data }, { on := 8, ground := Ground.chain }, { on := 0, ground := Ground.phase }, { on := 1, ground := Ground.phase }, { on := 2, ground := Ground.phase }, { on := 3, ground := Ground.phase }, { on := 4, ground := Ground.phase }, { on := 5, ground := Ground.phase }, { on := 6, ground := Ground.phase }, { on := 7, ground := Ground.phase }, { on := 8, ground := Ground.phase }], guard := none }) (by kernel_rfl) rfl (by kernel_rfl) (fun K hK => ?_)
    go_simp
    refine hK.out _ _ ?_
    clear hK K
    have hzl : (rs ++ [z]).length ≤ 4 := by simp; omega
    have HZA : Hid (∀ r ∈ rs ++ [z], r.size ≤ 32) := fun r hr => by
      rcases List.mem_append.1 hr with e | e
      · rw [HS.out.all r e]; omega
      · rw [List.mem_singleton.1 e]; exact hz
    clear hS8 k0 k1 k2 k3
    obtain ⟨y0, y1, y2, y3⟩ := box4 hBz.box
    obtain ⟨z0, z1, z2, z3⟩ := box4 hBz.ret
    have f0 := hBz.ret.fz 0
    have f1 := hBz.ret.fz 1
    have f2 := hBz.ret.fz 2
    have f3 := hBz.ret.fz 3
    have hSz := hBz.ret.whole [.int .i64 no, .string pv, .string su, .slice (some ⟨g', 0, none⟩) (rs.length + 1) cap'] rfl
    obtain ⟨u0, u1, u2, u3⟩ := box4 hSz.1
    simp only [putAll, Nat.zero_add, Nat.reduceAdd] at u0 u1 u2 u3
    have HDz := Hid.mk' (hBz.dr.aside hSz.2 (by omega) hBz.out.2)
    simp only [putAll, Nat.zero_add, Nat.reduceAdd] at HDz
    have HBE : Hid (Bent1 (no, pv, su, rs ++ [z])) := ⟨hwn, fun e => .inl (HS.out.first e), by show pv.size ≤ 32; omega, by show su.size ≤ 32; omega, hzl, HZA.out⟩
    clear hSz hBz
    go_wp2_with fail
    refine bodyPost_ret (v := .agg #[.int .i64 no, .string pv, .string su, .slice (some ⟨g', 0, none⟩) (rs.length + 1) cap']) ?_ rfl ⟨[.int .i64 no, .string pv, .string su, .slice (some ⟨g', 0, none⟩) (rs.length + 1) cap'], (no, pv, su, rs ++ [z]), _, rfl, seal_own.2 ⟨_, rfl, hwn, hpm, hsm, own_mk HDz.out.own⟩, fun k hk => HDz.out.new k hk, HBE.out, HDz.out.cur, HDz.out.grown⟩
    simp [results, Tryd.results43, go_sem, u0, u1, u2, u3]
  · have hBz := hS6
    clear hS6
    obtain ⟨y0, y1, y2, y3⟩ := box4 hBz.box
    obtain ⟨z0, z1, z2, z3⟩ := box4 hBz.ret
    have f0 := hBz.ret.fz 0
    have f1 := hBz.ret.fz 1
    have f2 := hBz.ret.fz 2
    have f3 := hBz.ret.fz 3
    have hSz := hBz.ret.whole [.int .i64 no, .string pv, .string su, .slice (some ⟨g, 0, none⟩) rn c] rfl
    obtain ⟨u0, u1, u2, u3⟩ := box4 hSz.1
    simp only [putAll, Nat.zero_add, Nat.reduceAdd] at u0 u1 u2 u3
    have HDz := Hid.mk' (hBz.dr.aside hSz.2 (by omega) hBz.out.2)
    simp only [putAll, Nat.zero_add, Nat.reduceAdd] at HDz
    have HBE : Hid (Bent1 (no, pv, su, rs)) := ⟨hwn, fun e => .inl (HS.out.first e), by show pv.size ≤ 32; omega, by show su.size ≤ 32; omega, by show rs.length ≤ 4; omega, fun r hr => by rw [HS.out.all r hr]; omega⟩
    clear hSz hBz
    go_wp2_with fail
    refine bodyPost_ret (v := .agg #[.int .i64 no, .string pv, .string su, .slice (some ⟨g, 0, none⟩) rn c]) ?_ rfl ⟨[.int .i64 no, .string pv, .string su, .slice (some ⟨g, 0, none⟩) rn c], (no, pv, su, rs), _, rfl, seal_own.2 ⟨_, rfl, hwn, hpm, hsm, own_mk HDz.out.own⟩, fun k hk => HDz.out.new k hk, HBE.out, HDz.out.cur, HDz.out.grown⟩
    simp [results, Tryd.results43, go_sem, u0, u1, u2, u3]
end Go.Proofs.YtfaldffehpgaiaaDoor.seals
