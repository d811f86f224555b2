/- The statement FnOpsReadSaid: at every slice of bytes FnOpsRead answers true, and the slice reads afterwards as before. No condition besides the row's own. -/
import Derived.Test.YtefjbpkomphjdaaRows
import Derived.Test.YtefjbpkomphjdaaShaa
import Derived.Test.YtefjbpkomphjdaaShaf
import Derived.Test.YtefjbpkomphjdaaShai
import Derived.ProofKit
import Derived.OpenShut
import Derived.ShutString
import Derived.ChangeOld
import Derived.Below
namespace Go.Proofs.Ytefjbpkomphjdaa.fnOpsRead
open Go.ChangeShapes Go.WideShapes Go.ChangeAt Go.RowKit
open Go.ChangeMaps (open_string shut_string)
set_option linter.unusedVariables false
open Go.Proofs.Ytefjbpkomphjdaa.base Go.Proofs.Ytefjbpkomphjdaa.pairs Go.Proofs.Ytefjbpkomphjdaa.ords Go.Proofs.Ytefjbpkomphjdaa.txts

set_option maxRecDepth 100000 in
set_option maxHeartbeats 4000000 in
theorem walk (a0 : Option Addr) (len0 cap0 : Nat) (b0 : List UInt8) (w : World) (w0 : Sl w a0 len0 b0) :
    Calls Try.prog 4 #[.slice a0 len0 cap0] w fun e w' => e = .returned (.bool true) ∧ Below w.heap.size w w' := by
  have hm := w0.2.1
  by_cases hbig : 1048576 < len0
  · have hb := big_ a0 len0 cap0 w hm
    rw [decide_eq_true (by omega)] at hb
    have HB := Hid.mk' hb
    clear hb
    go_enter Try.func4, Try.ntmps4
    go_wp2_with fail
    refine HB.out.mono ?_
    rintro e wa ⟨rfl, rfl⟩
    go_wp2_with fail
    go_ret
    exact ⟨rfl, Below.refl _ _⟩
  · have hb := big_ a0 len0 cap0 w hm
    rw [decide_eq_false (by omega)] at hb
    have HB := Hid.mk' hb
    clear hb
    go_enter Try.func4, Try.ntmps4
    go_wp2_with fail
    refine HB.out.mono ?_
    rintro e wa ⟨rfl, hwa⟩
    subst hwa
    clear HB
    go_wp2_with fail
    refine (drawParseOps a0 len0 cap0 b0 _ w0 (by omega)).mono ?_
    rintro e w1 ⟨z, hz, rfl, hB1⟩
    have HI := Hid.mk' (fun wx => impl_parse z wx (by omega))
    have HS := Hid.mk' (fun wx => spec_parse z wx (by omega))
    have hzz : (z.toList == z.toList) = true := by simp
    cases hp : parseOps z.data.toList with
    | none =>
      rw [hp] at HI HS
      clear hp
      go_wp2_with fail
      refine (HI.out _).mono ?_
      rintro e w2 ⟨g, n, cp, rfl, hO, hb2⟩
      have hn : n = 0 := by have := hO.1; simp at this; omega
      subst hn
      clear hO
      go_wp2_with fail
      refine (HS.out _).mono ?_
      rintro e w3 ⟨g2, n2, cp2, rfl, hO2, hb3⟩
      clear hO2
      go_wp2_with fail
      go_ret
      have hb4 := hb2.trans (hb3.mono hb2.size)
      exact ⟨rfl, hB1.trans (hb4.mono hB1.size)⟩
    | some l =>
      obtain ⟨hok, htx⟩ := parse_text hp
      rw [hp] at HI HS
      obtain ⟨⟨hall, _⟩, _, _⟩ := (opsOk_iff l).1 hok
      have hks : Hid (∀ p ∈ l, p.2.1.size ≤ 1099511627776) := fun p hpm => by have := keyOk_size ((odOk_iff p).1 (hall p hpm)).2.2.1; omega
      have HOK := Hid.mk' (fun wx g n cp (h : SlO wx (some ⟨g, 0, none⟩) n l) => impl_opsOk g 0 n cp l wx h hks.out)
      rw [hok] at HOK
      have HTX := Hid.mk' (fun wx g n cp (h : SlO wx (some ⟨g, 0, none⟩) n l) => impl_opsText g n cp l wx h hks.out)
      have hza : (⟨(opsText l).toArray⟩ : ByteArray) = z := by rw [htx]
      rw [hza] at HTX
      clear hp hall hok htx hza
      go_wp2_with fail
      refine (HI.out _).mono ?_
      rintro e w2 ⟨g, n, cp, rfl, hO, hb2⟩
      have hO : OwnO w2 w1.heap.size g n cp l := hO
      go_wp2_with fail
      refine (HS.out _).mono ?_
      rintro e w3 ⟨g2, n2, cp2, rfl, hO2, hb3⟩
      have hO3 := hO.below hb3
      have hb4 := hb2.trans (hb3.mono hb2.size)
      have HK := Hid.mk' (HOK.out _ _ _ cp hO3.sl)
      have HSL := Hid.mk' hO3.sl
      clear hO2 hO hO3
      go_wp2_with fail
      refine HK.out.mono ?_
      rintro e w4 ⟨rfl, hb5⟩
      have hb6 := hb4.trans (hb5.mono hb4.size)
      have HT := Hid.mk' (HTX.out _ _ _ cp (HSL.out.below hb5))
      go_wp2_with fail
      refine HT.out.mono ?_
      rintro e w5 ⟨rfl, hb7⟩
      have hb8 := hb6.trans (hb7.mono hb6.size)
      go_wp2_with fail
      go_ret
      exact ⟨rfl, hB1.trans (hb8.mono hB1.size)⟩

theorem own : ownKnob Try.prog.godebug = none := by kernel_rfl
theorem laidOut : laidOutB Try.prog = true := by kernel_rfl

set_option maxRecDepth 100000 in
theorem lifted (os : Os) (started : os.Started) (H : Type) (enc : TypeId × Value → H) :
    ReturnsInHanded {} Try.checked os 4 .any (Rows.fnOpsReadSpec.pre6 enc Try.prog Try.f4 Rows.fnOpsReadRow.domain false) (Rows.fnOpsReadSpec.post enc Try.prog Try.f4 false true false false) := by
  refine returnsInHanded_of_change (C := Try.checked) own started (by kernel_rfl) Try.func4
    (ChangeSpec.witness6 (enc := enc) (C := Try.checked) false ⟨#[], #[.slice none 0 0], []⟩ 8 (by kernel_rfl) (by kernel_rfl) (by kernel_rfl) (by kernel_rfl)) ?_
  intro W base args ds gs before hval0 hW hcnd _
  have hval : ∀ (j : Nat) t v, Try.f4.params[j]? = some t → args[j]? = some v → Value.okWide Try.prog W .any base t v := hval0
  have hW' := hW
  obtain ⟨p, q, hA0, hV, rfl, hfz, hnd⟩ := hW
  have hA : DataW.TrodAll enc Try.prog W 0 (fun _ => true) true Try.f4.params.toList args.toList ds p := hA0
  rw [Try.params4] at hA hval
  obtain ⟨v0, vs0, d0, ds0, p0, q0, hargs, rfl, rfl, h0, r0⟩ := trodAll_cons hA
  obtain ⟨rfl, rfl, rfl⟩ := trodAll_nil r0
  obtain rfl : args = #[v0] := by cases args; simp_all
  obtain ⟨rfl, rfl⟩ := trodVars_none hV
  obtain ⟨a0, len0, cap0, rfl⟩ := okWide_slice Try.underlying22 (hval 0 22 v0 rfl rfl)
  have k0 := h0
  have lt0 : ∀ x ∈ p0, x.block < W.heap.size := by obtain ⟨m, hm⟩ := k0; exact DataW.trod_lt m _ _ _ hm
  obtain ⟨b0, w0⟩ : ∃ bs, Sl W a0 len0 bs := by
    obtain ⟨fuel, hf⟩ := h0
    rcases open_ints Try.underlying22 Try.underlying5 (by kernel_rfl) hf with ⟨hcs, _⟩ | ⟨x, l, c, zs, hcs, _, hl, hm, hz, _, hcell, hwz⟩
    · simp [Value.cells] at hcs
      obtain ⟨rfl, rfl, rfl⟩ := hcs
      exact ⟨[], sl_nil _ _⟩
    · simp [Value.cells] at hcs
      obtain ⟨rfl, rfl, rfl⟩ := hcs
      exact ⟨_, sl_of_ints hl hm (by simpa using hz) hcell hwz⟩
  clear hA0 hval0
  refine (walk a0 len0 cap0 b0 W w0).mono fun e W' ⟨he, bel⟩ => ?_
  subst he
  exact ⟨_, rfl, _, _, _, [], _, [], hW', trodAll_mk1 (shut_bool Try.underlying4 _), (trodAll_cons_mk (Below.trod laidOut (by kernel_rfl) (of_decide_eq_true (by kernel_rfl)) k0 bel lt0) trodAll_mk0), rfl, bel.frame _, fun h => by cases h⟩

theorem over : Rows.fnOpsReadRow.holds Try.pinned (OpenSpec.ofChange Rows.fnOpsReadSpec) :=
  OpenClaim.holds_of_wide 4 Try.f4 rfl rfl rfl rfl rfl rfl rfl ⟨rfl, rfl, rfl, rfl, rfl⟩ rfl rfl rfl rfl rfl (by kernel_rfl) Try.func4 (by kernel_rfl)
    (of_decide_eq_true (by kernel_rfl)) (by unfold Func.isWrapper; first | (rw [if_pos (by decide +kernel)]; kernel_rfl) | (rw [if_neg (by decide +kernel)]; exact ⟨rfl, rfl⟩))
    (fun os started H enc _ => lifted os started H enc)

theorem proved : Rows.FnOpsReadSaid := over
end Go.Proofs.Ytefjbpkomphjdaa.fnOpsRead
