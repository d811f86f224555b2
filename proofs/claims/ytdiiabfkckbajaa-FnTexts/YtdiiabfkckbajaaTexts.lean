/- The statement FnTextsSaid: at every slice of bytes FnTexts answers true, and the slice reads afterwards as before. No condition besides the row's own. -/
import Derived.Test.YtdiiabfkckbajaaRows
import Derived.Test.YtdiiabfkckbajaaBase
import Derived.Test.YtdiiabfkckbajaaHelp
import Derived.Test.YtdiiabfkckbajaaDraws2
import Derived.Test.YtdiiabfkckbajaaTextMath
import Derived.Test.YtdiiabfkckbajaaConv
import Derived.Test.YtdiiabfkckbajaaHash
import Derived.ProofKit
import Derived.OpenShut
import Derived.ShutString
import Derived.ChangeOld
import Derived.Below
namespace Go.Proofs.Ytdiiabfkckbajaa.fnTexts
open Go.ChangeShapes Go.WideShapes Go.ChangeAt Go.RowKit
open Go.ChangeMaps (open_string shut_string)
set_option linter.unusedVariables false
open Go.Proofs.Ytdiiabfkckbajaa.base Go.Proofs.Ytdiiabfkckbajaa.help Go.Proofs.Ytdiiabfkckbajaa.helps Go.Proofs.Ytdiiabfkckbajaa.draw Go.Proofs.Ytdiiabfkckbajaa.getnum Go.Proofs.Ytdiiabfkckbajaa.putnum Go.Proofs.Ytdiiabfkckbajaa.gettext Go.Proofs.Ytdiiabfkckbajaa.puttext Go.Proofs.Ytdiiabfkckbajaa.gettexts Go.Proofs.Ytdiiabfkckbajaa.puttexts Go.Proofs.Ytdiiabfkckbajaa.nummath Go.Proofs.Ytdiiabfkckbajaa.textmath Go.Proofs.Ytdiiabfkckbajaa.conv

theorem big_ (a0 : Option Addr) (len0 cap0 : Nat) (w : World) (h : len0 ≤ maxLen) :
    Calls Try.prog 12 #[.slice a0 len0 cap0] w fun e w' => e = .returned (.bool (decide (1048576 < (len0 : Int)))) ∧ w' = w := by
  unfold maxLen at h
  go_enter Try.func12, Try.ntmps12
  go_wp2
  go_ret
  exact ⟨rfl, rfl⟩
theorem at2 (a : Option Addr) (len cap : Nat) (code : List UInt8) (w : World) (h : Sl w a len code) (hln : len ≤ 1099511627776) :
    Calls Try.prog 24 #[.slice a len cap, .int .i64 2] w fun e w' => ∃ x : Nat, x < 256 ∧ e = .returned (.int .i64 (x : Int)) ∧ w' = w := at_ a len cap code 2 w h hln (by omega)
theorem at3 (a : Option Addr) (len cap : Nat) (code : List UInt8) (w : World) (h : Sl w a len code) (hln : len ≤ 1099511627776) :
    Calls Try.prog 24 #[.slice a len cap, .int .i64 3] w fun e w' => ∃ x : Nat, x < 256 ∧ e = .returned (.int .i64 (x : Int)) ∧ w' = w := at_ a len cap code 3 w h hln (by omega)
theorem rem_q (x N : Nat) (h : 0 < N) : ∃ q : Nat, q < N ∧ (x : Int).tmod (N : Int) = (q : Int) ∧ (x : Int) % (N : Int) = (q : Int) := by
  refine ⟨x % N, Nat.mod_lt _ h, ?_, by rw [Int.natCast_emod]⟩
  rw [Int.tmod_eq_emod_of_nonneg (by omega), Int.natCast_emod]
theorem rem_q8 (x : Nat) : ∃ q : Nat, q < 8 ∧ (x : Int).tmod 8 = (q : Int) ∧ (x : Int) % 8 = (q : Int) := by
  have := rem_q x 8 (by omega)
  simpa using this
theorem pow8 (r : Nat) (h : r < 8) : 1 ≤ 2 ^ r ∧ 2 ^ r < 256 := by
  have h1 : 2 ^ r ≤ 2 ^ 7 := Nat.pow_le_pow_right (by omega) (by omega)
  have h2 : 0 < 2 ^ r := Nat.two_pow_pos r
  omega
theorem shiftA (r : Nat) (h : r < 8) : IntKind.u8.wrap (2 ^ min (IntKind.u64.wrap (r : Int)).toNat 8) = ((2 ^ r : Nat) : Int) := by
  have hp := pow8 r h
  have e : IntKind.u64.wrap (r : Int) = (r : Int) := by rw [IntKind.wrap_u64]; omega
  rw [e, Int.toNat_natCast, Nat.min_eq_left (by omega), IntKind.wrap_u8, show ((2 : Int) ^ r) = ((2 ^ r : Nat) : Int) by simp]
  omega
theorem shiftB (r : Nat) (h : r < 8) : (2 : Int) ^ min r 8 % 256 = ((2 ^ r : Nat) : Int) := by
  have hp := pow8 r h
  rw [Nat.min_eq_left (by omega), show ((2 : Int) ^ r) = ((2 ^ r : Nat) : Int) by simp]
  omega
theorem turned (c r : Nat) (hc : c < 256) (hr : r < 8) : ∃ u : UInt8, bits .xor .u8 (c : Int) ((2 ^ r : Nat) : Int) = (u.toNat : Int) ∧ u.toNat ≠ c := by
  have hp := pow8 r hr
  have hx : c ^^^ 2 ^ r < 256 := Nat.xor_lt_two_pow (n := 8) (by omega) (by omega)
  refine ⟨UInt8.ofNat (c ^^^ 2 ^ r), ?_, ?_⟩
  · rw [u8_xor_nat c (2 ^ r) hc (by omega), byteN _ hx]
  · rw [byteN _ hx]
    intro e
    have := xor_right c (2 ^ r) 0 (by rw [Nat.xor_zero]; exact e)
    omega
theorem Wr.set {w : World} {g n : Nat} {bs : List UInt8} (h : Wr w g n bs) (q : Nat) (hq : q < n) (u : UInt8) : Wr ((w.setCell ⟨g, q, none⟩ (.int .u8 u.toNat)).drew) g n (bs.set q u) := by
  obtain ⟨h1, h2, h3, h4⟩ := h
  refine ⟨by simpa using h1, h2, by simpa using h3, fun i hi => ?_⟩
  have hi' : i < bs.length := by simpa using hi
  have hc := h4 i hi'
  constructor
  · by_cases e : i = q
    · subst e
      have := World.cell?_setCells_in g [.int .u8 u.toNat] i w (by intro j hj; simp at hj; subst hj; rw [Nat.add_zero, hc.1]; rfl) 0 (by simp)
      simp only [World.setCells, Nat.add_zero, List.getElem_cons_zero] at this
      simp only [List.getElem_set_self]
      exact this
    · have := World.cell?_setCells_out g [.int .u8 u.toNat] q w ⟨g, i, none⟩ (by intro _ _; show i < q ∨ q + 1 ≤ i; omega)
      simp only [World.setCells] at this
      rw [List.getElem_set_ne (fun h => e h.symm)]
      exact this.trans hc.1
  · have := World.frozen?_setCells g [.int .u8 u.toNat] q w ⟨g, i, none⟩
    simp only [World.setCells] at this
    exact this.trans hc.2
theorem grown_set {w : World} {g q : Nat} (v : Value) : w.grownBy ((w.setCell ⟨g, q, none⟩ v).drew) (some g) :=
  ⟨rfl, rfl, rfl, by simp, fun k _ hk => heap_setCell_other w ⟨g, q, none⟩ k v (fun e => hk (by simp [e]))⟩
theorem sl_drew {w : World} {a : Option Addr} {len : Nat} {bs : List UInt8} (h : Sl w a len bs) : Sl w.drew a len bs := h
theorem conv_wr {w : World} {g n : Nat} {bs : List UInt8} (h : Wr w g n bs) (c : Nat) :
    (convert 22 9 (.slice (some ⟨g, 0, none⟩) n c)).run Try.prog w = .ok (.string ⟨bs.toArray⟩) w := by
  have h1 := conv_cut (w := w) (b := g) (off := 0) (p := 0) (n := n) h.sl (by have := h.1; omega) c
  have e : cut bs 0 n = ⟨bs.toArray⟩ := by unfold cut; rw [List.drop_zero, List.take_of_length_le (by have := h.1; omega)]
  rw [e] at h1
  exact h1

set_option maxRecDepth 100000 in
set_option maxHeartbeats 2000000 in
theorem walk (a0 : Option Addr) (len0 cap0 : Nat) (b0 : List UInt8) (w : World) (w0 : Sl w a0 len0 b0) :
    Calls Try.prog 4 #[.slice a0 len0 cap0] w fun e w' => e = .returned (.bool true) ∧ Below w.heap.size w w' := by
  have hm := w0.2.1
  by_cases hbig : 1048576 < len0
  · have hb := big_ a0 len0 cap0 w hm
    rw [decide_eq_true (by omega)] at hb
    have HB := Hid.mk' hb
    clear hb
    go_enter Try.func4, Try.ntmps4
    go_wp2_with fail
    refine HB.out.mono ?_
    rintro e wa ⟨rfl, rfl⟩
    go_wp2_with fail
    go_ret
    exact ⟨rfl, Below.refl _ _⟩
  · have hb := big_ a0 len0 cap0 w hm
    rw [decide_eq_false (by omega)] at hb
    have HB := Hid.mk' hb
    clear hb
    go_enter Try.func4, Try.ntmps4
    go_wp2_with fail
    refine HB.out.mono ?_
    rintro e wa ⟨rfl, hwa⟩
    subst hwa
    go_wp2_with fail
    refine (drawPutTexts a0 len0 cap0 b0 _ w0 (by omega)).mono ?_
    rintro e w1 ⟨g, m, cp, bs, g2, m2, cp2, ss, hm1, hm2, hss, rfl, hO1, hS1, hB1⟩
    have hl1 := hO1.1
    have hl2 := hS1.1
    have hsum : ss.length + sum ss ≤ 100 := by
      have hall : ∀ (l : List ByteArray), (∀ s ∈ l, s.size ≤ 15) → sum l ≤ 15 * l.length := by
        intro l
        induction l with
        | nil => intro _; simp [sum]
        | cons s l ih =>
          intro h
          have h1 := h s List.mem_cons_self
          have h2 := ih (fun x hx => h x (List.mem_cons_of_mem _ hx))
          simp only [sum, List.map_cons, List.sum_cons, List.length_cons] at *
          omega
      have := hall ss hss
      omega
    go_wp2_with fail
    refine (puttexts.impl_texts _ m cp bs g2 _ m2 cp2 ss _ hO1.sl hS1 (by omega) (by omega)).mono ?_
    rintro e w2 ⟨g3, n3, cap3, rfl, hO2, hB2⟩
    have hB2' := hB1.trans (hB2.mono hB1.size)
    have hS2 := hS1.below hB2
    have hG := getTexts_put bs ss (by omega) (fun s hs => Nat.le_trans (hss s hs) (by omega))
    rw [hl1] at hG
    have hl3 := hO2.1
    have hmx := hO2.max
    have hwf : (Lit.int .i64 (m : Int)).wf = true := WalkArith.wf_i64 (by omega)
    generalize hLn : (listBytes ss).length = L at *
    simp only [List.length_append, hLn, hl1] at hl3
    have hq2 : ((m : Int) + (L : Int) == (n3 : Int)) = true := by rw [beq_iff_eq]; omega
    have hC := gettexts.impl_texts (some ⟨g3, 0, none⟩) n3 cap3 (m : Int) _ _ hO2.sl hmx.1 hwf
    rw [hG] at hC
    simp only [resP, resB, resT] at hC
    have HC := Hid.mk' hC
    clear hC hG hLn hB1 hO1 hS1
    go_wp2_with fail
    refine HC.out.mono ?_
    rintro e w3 ⟨g4, n4, cp4, rfl, hS4, hB3⟩
    have hB3' := hB2'.trans (hB3.mono hB2'.size)
    have hS3 := hS2.below hB3
    clear HC hS2 hB2 hO2
    go_wp2_with fail
    refine (drawHash a0 len0 cap0 b0 _ (w0.below hB3') (by omega)).mono ?_
    rintro e w4 ⟨hs, hhs, rfl, hB4⟩
    have hB4' := hB3'.trans (hB4.mono hB3'.size)
    have hX4 := hS4.below hB4
    have hY4 := hS3.below hB4
    have hsz : (⟨hs.toArray⟩ : ByteArray).size = hs.length := by simp [ByteArray.size]
    generalize (⟨hs.toArray⟩ : ByteArray) = S at *
    have hconv := Lib.run_convert_string_bytes (P := Try.prog) w4 9 22 5 S Try.underlying9 Try.underlying22 Try.underlying5
    clear hS4 hS3 hB4 hB3
    have hSs : S.size ≤ 1000 := by omega
    have hS1000 : S.size ≤ 1099511627776 := by omega
    clear hsz hhs
    go_wp2_with (at_builtin; refine wpList_append_conv w4 S _ 7 rfl rfl _ _ rfl rfl rfl hS1000 ?_)
    intro g5 cap5 w5 hg5 hW5 hB5
    have hX5 := hX4.below hB5
    have hY5 := hY4.below hB5
    have hB5' := hB4'.trans (hB5.mono hB4'.size)
    have hN1 : 1 ≤ S.size + 1 ∧ S.size + 1 ≤ 1001 := by omega
    generalize S.size + 1 = N at *
    generalize S.data.toList ++ [7] = T at *
    have hgx : g4 ≠ g5 := by have := hX4.lt; omega
    have hgy : g2 ≠ g5 := by have := hY4.lt; omega
    have hg5w := Nat.le_trans hB4'.size hg5
    have hcv := conv_wr hW5 cap5
    have hTl := hW5.1
    have hTs : (⟨T.toArray⟩ : ByteArray).size = T.length := by simp [ByteArray.size]
    have hHash := hash.impl_hash ⟨T.toArray⟩ w5 (by rw [hTs]; unfold maxLen; omega)
    have hTd : (⟨T.toArray⟩ : ByteArray).data.toList = T := by simp
    rw [hTd] at hHash
    have hlt := hashOf_lt T
    have HT := Hid.mk' hTl
    have HH := Hid.mk' hHash
    clear hHash hTd hTs hX4 hY4 hB5 hB4' hTl hconv
    generalize (⟨T.toArray⟩ : ByteArray) = TS at *
    go_wp2_with fail
    refine HH.out.mono ?_
    rintro e w6 ⟨rfl, hB6⟩
    have hW6 := hW5.below hB6
    have hX6 := hX5.below hB6
    have hY6 := hY5.below hB6
    have hB6' := hB5'.trans (hB6.mono hB5'.size)
    have hA6 := w0.below hB6'
    clear hcv HH hW5 hX5 hY5 hB6 hB5'
    have hcells : Hid (∀ i (hi : i < N), ∃ c : Nat, c < 256 ∧ w6.cell? ⟨g5, i, none⟩ = some (.int .u8 (c : Int)) ∧ w6.frozen? ⟨g5, i, none⟩ = false ∧ c = (T.getD i 0).toNat) := by
      intro i hi
      have hil : i < T.length := by have := HT.out; omega
      refine ⟨T[i].toNat, UInt8.toNat_lt _, (hW6.2.2.2 i hil).1, (hW6.2.2.2 i hil).2, ?_⟩
      simp [List.getD, hil]
    generalize hH : hashOf T = HV at *
    have HHV := Hid.mk' hH
    clear hH
    go_wp2_with fail
    go_region_with (first
      | (go_at_call_of 24 (Value.int IntKind.i64 2); refine (at2 a0 len0 cap0 b0 _ (sl_drew hA6) (by omega)).mono ?_; rintro e wx ⟨x, hx, rfl, hwx⟩; subst hwx; obtain ⟨q, hqN, hr1, hr2⟩ := rem_q x N (by omega); obtain ⟨c, hc256, hcc, hcf, hcT⟩ := hcells.out q hqN; have HCT := Hid.mk' hcT; clear hcT; have hxN : (q : Int) < (N : Int) := by omega)
      | (go_at_call_of 24 (Value.int IntKind.i64 3); refine (at3 a0 len0 cap0 b0 _ (sl_drew hA6) (by omega)).mono ?_; rintro e wx ⟨y, hy, rfl, hwx⟩; subst hwx; obtain ⟨r, hr8, hr3, hr4⟩ := rem_q8 y))
    all_goals
      first | rw [shiftA r hr8] | rw [shiftB r hr8]
      obtain ⟨u, hu1, hu2⟩ := turned c r hc256 hr8
      rw [hu1]
      have hW7 := Wr.set hW6 q hqN u
      have hG7 : w6.grownBy ((w6.setCell ⟨g5, q, none⟩ (.int .u8 (u.toNat : Int))).drew) (some g5) := grown_set _
      have hX7 := hX6.grown hG7 (by simpa using hgx)
      have hY7 := hY6.grown hG7 (by simpa using hgy)
      have hB7 := hB6'.grown hG7 hB6'.size (fun k e => by cases e; exact hg5w)
      have hturn : Hid (hashOf (T.set q u) ≠ HV) := by
        have hql : q < T.length := by have := HT.out; omega
        have hx := HCT.out
        rw [← HHV.out]
        refine hash_turn T q hql u ?_
        intro e
        rw [List.getD_eq_getElem?_getD, List.getElem?_eq_getElem hql] at hx
        simp only [Option.getD_some] at hx
        rw [← e] at hx
        exact hu2 hx.symm
      generalize (w6.setCell ⟨g5, q, none⟩ (.int .u8 (u.toNat : Int))).drew = w7 at *
      have hTl : (T.set q u).length = N := by rw [List.length_set]; exact HT.out
      generalize T.set q u = T2 at *
      have hTs : (⟨T2.toArray⟩ : ByteArray).size = T2.length := by simp [ByteArray.size]
      have hTd : (⟨T2.toArray⟩ : ByteArray).data.toList = T2 := by simp
      have hHash := fun wx => hash.impl_hash ⟨T2.toArray⟩ wx (by rw [hTs]; unfold maxLen; omega)
      rw [hTd] at hHash
      have hlt2 := hashOf_lt T2
      generalize hashOf T2 = HV2 at *
      have hneq : ((HV2 : Int) == (HV : Int)) = false := by rw [beq_eq_false_iff_ne]; intro e; exact hturn.out (by omega)
      have HH2 := Hid.mk' hHash
      clear hHash hTd hTs hturn HHV HT HCT hu1 hu2 hr1 hr2 hr3 hr4 hcc hcf hcells hW6 hX6 hY6 hG7 hTl
      go_wp2_with fail
      refine (sameT _ _ _ _ _ _ ss ss _ hX7.sl hY7.sl rfl).mono ?_
      rintro e w8 ⟨rfl, hB8⟩
      have hcv := conv_wr (hW7.below hB8) cap5
      have hB8' := hB7.trans (hB8.mono hB7.size)
      generalize (⟨T2.toArray⟩ : ByteArray) = TS2 at *
      clear hW7 hX7 hY7 hB8
      go_wp2_with fail
      refine (HH2.out _).mono ?_
      rintro e w9 ⟨rfl, hB9⟩
      go_wp2_with fail
      go_ret
      exact ⟨ret_bool (by rw [bne, hneq]; rfl), hB8'.trans (hB9.mono hB8'.size)⟩

theorem own : ownKnob Try.prog.godebug = none := by kernel_rfl
theorem laidOut : laidOutB Try.prog = true := by kernel_rfl

set_option maxRecDepth 100000 in
theorem lifted (os : Os) (started : os.Started) (H : Type) (enc : TypeId × Value → H) :
    ReturnsInHanded {} Try.checked os 4 .any (Rows.fnTextsSpec.pre6 enc Try.prog Try.f4 Rows.fnTextsRow.domain false) (Rows.fnTextsSpec.post enc Try.prog Try.f4 false true false false) := by
  refine returnsInHanded_of_change (C := Try.checked) own started (by kernel_rfl) Try.func4
    (ChangeSpec.witness6 (enc := enc) (C := Try.checked) false ⟨#[], #[.slice none 0 0], []⟩ 8 (by kernel_rfl) (by kernel_rfl) (by kernel_rfl) (by kernel_rfl)) ?_
  intro W base args ds gs before hval0 hW hcnd _
  have hval : ∀ (j : Nat) t v, Try.f4.params[j]? = some t → args[j]? = some v → Value.okWide Try.prog W .any base t v := hval0
  have hW' := hW
  obtain ⟨p, q, hA0, hV, rfl, hfz, hnd⟩ := hW
  have hA : DataW.TrodAll enc Try.prog W 0 (fun _ => true) true Try.f4.params.toList args.toList ds p := hA0
  rw [Try.params4] at hA hval
  obtain ⟨v0, vs0, d0, ds0, p0, q0, hargs, rfl, rfl, h0, r0⟩ := trodAll_cons hA
  obtain ⟨rfl, rfl, rfl⟩ := trodAll_nil r0
  obtain rfl : args = #[v0] := by cases args; simp_all
  obtain ⟨rfl, rfl⟩ := trodVars_none hV
  obtain ⟨a0, len0, cap0, rfl⟩ := okWide_slice Try.underlying22 (hval 0 22 v0 rfl rfl)
  have k0 := h0
  have lt0 : ∀ x ∈ p0, x.block < W.heap.size := by obtain ⟨m, hm⟩ := k0; exact DataW.trod_lt m _ _ _ hm
  obtain ⟨b0, w0⟩ : ∃ bs, Sl W a0 len0 bs := by
    obtain ⟨fuel, hf⟩ := h0
    rcases open_ints Try.underlying22 Try.underlying5 (by kernel_rfl) hf with ⟨hcs, _⟩ | ⟨x, l, c, zs, hcs, _, hl, hm, hz, _, hcell, hwz⟩
    · simp [Value.cells] at hcs
      obtain ⟨rfl, rfl, rfl⟩ := hcs
      exact ⟨[], sl_nil _ _⟩
    · simp [Value.cells] at hcs
      obtain ⟨rfl, rfl, rfl⟩ := hcs
      exact ⟨_, sl_of_ints hl hm (by simpa using hz) hcell hwz⟩
  clear hA0 hval0
  refine (walk a0 len0 cap0 b0 W w0).mono fun e W' ⟨he, bel⟩ => ?_
  subst he
  exact ⟨_, rfl, _, _, _, [], _, [], hW', trodAll_mk1 (shut_bool Try.underlying4 _), (trodAll_cons_mk (Below.trod laidOut (by kernel_rfl) (of_decide_eq_true (by kernel_rfl)) k0 bel lt0) trodAll_mk0), rfl, bel.frame _, fun h => by cases h⟩

theorem over : Rows.fnTextsRow.holds Try.pinned (OpenSpec.ofChange Rows.fnTextsSpec) :=
  OpenClaim.holds_of_wide 4 Try.f4 rfl rfl rfl rfl rfl rfl rfl ⟨rfl, rfl, rfl, rfl, rfl⟩ rfl rfl rfl rfl rfl (by kernel_rfl) Try.func4 (by kernel_rfl)
    (of_decide_eq_true (by kernel_rfl)) (by unfold Func.isWrapper; first | (rw [if_pos (by decide +kernel)]; kernel_rfl) | (rw [if_neg (by decide +kernel)]; exact ⟨rfl, rfl⟩))
    (fun os started H enc _ => lifted os started H enc)

theorem proved : Rows.FnTextsSaid := over
end Go.Proofs.Ytdiiabfkckbajaa.fnTexts
