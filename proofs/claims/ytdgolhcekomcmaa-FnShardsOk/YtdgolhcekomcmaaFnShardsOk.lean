/- The statement FnShardsOkSaid: at every code FnShardsOk answers true, and the code reads afterwards as before. No condition besides the row's own. -/
import Derived.Test.YtdgolhcekomcmaaRows
import Derived.Test.YtdgolhcekomcmaaBund9be
import Derived.ProofKit
import Derived.OpenShut
import Derived.ShutString
import Derived.ChangeOld
import Derived.Below
namespace Go.Proofs.Ytdgolhcekomcmaa.fnShardsOk
open Go.ChangeShapes Go.WideShapes Go.ChangeAt Go.RowKit
open Go.ChangeMaps (open_string shut_string)
set_option linter.unusedVariables false
open Go.Proofs.Ytdgolhcekomcmaa.base Go.Proofs.Ytdgolhcekomcmaa.pairs Go.Proofs.Ytdgolhcekomcmaa.ords Go.Proofs.Ytdgolhcekomcmaa.help Go.Proofs.Ytdgolhcekomcmaa.helps Go.Proofs.Ytdgolhcekomcmaa.recs Go.Proofs.Ytdgolhcekomcmaa.lay

set_option maxRecDepth 100000 in
set_option maxHeartbeats 4000000 in
theorem walk (a0 : Option Addr) (len0 cap0 : Nat) (b0 : List UInt8) (w : World) (w0 : Sl w a0 len0 b0) :
    Calls Try.prog 5 #[.slice a0 len0 cap0] w fun e w' => e = .returned (.bool true) ∧ Below w.heap.size w w' := by
  have hm := w0.2.1
  have hb := big_ a0 len0 cap0 w hm
  by_cases hbig : 1048576 < len0
  · rw [decide_eq_true (by omega)] at hb
    have HB := Hid.mk' hb
    clear hb
    go_enter Try.func5, Try.ntmps5
    go_wp2_with fail
    refine HB.out.mono ?_
    rintro e w1 ⟨rfl, rfl⟩
    go_wp2_with fail
    go_ret
    exact ⟨rfl, Below.refl _ _⟩
  rw [decide_eq_false (by omega)] at hb
  have HB := Hid.mk' (hb.mono (fun e w' (hp : e = .returned (.bool false) ∧ w' = w) => (⟨hp.1, hp.2.symm⟩ : e = .returned (.bool false) ∧ w = w')))
  have HDR := Hid.mk' (drawShard a0 len0 cap0 b0 w w0 (by omega))
  clear hb
  go_enter Try.func5, Try.ntmps5
  go_wp2_with fail
  refine HB.out.mono ?_
  rintro e w1 ⟨rfl, rfl⟩
  go_wp2_with fail
  refine HDR.out.mono ?_
  rintro e w2 ⟨la, ln, lc, ma, mn, mc, ha, hn, hc, s, F, hD, rfl, hOS, hF, hb2⟩
  clear HB HDR
  have hright := hD.right
  have hroom := hright.room
  obtain ⟨hpl, _⟩ := recs.OwnSh.plainV hOS
  have hsee := hOS.see
  have hlnl : ln = s.2.1.length := hsee.log.1.symm
  have hhnl : hn = s.2.2.2.2.length := hsee.held.1.symm
  have hln3 : ln ≤ 300 := by omega
  have hhn3 : hn ≤ 300 := by omega
  obtain ⟨seen, hmade⟩ := hright.made
  have hfew := hright.few
  have hok : shardOk s = true := (shardOk_iff s).2 hright
  have hnew : (newShd s.1).1 = s.1 := by unfold newShd; rw [if_pos hright.id]
  have hokn : shardOk (s.1, [], 0, [], []) = true := (shardOk_iff _).2 (right_new hright.id)
  obtain ⟨W, hW⟩ : ∃ W, w2.alloc (boxSh s.1 s.2.2.1 la ln lc ma mn mc ha hn hc) = W := ⟨_, rfl⟩
  have hbW : Below w2.heap.size w2 W := by rw [← hW]; exact below_two
  have hbx : BoxIn w2.heap.size TSh [] (shVals s.1 s.2.2.1 la ln lc ma mn mc ha hn hc) [] W := by rw [← hW]; exact boxIn_new w2 _ _
  have hXl := hbx.lt
  have hBW := hb2.trans (hbW.mono hb2.size)
  have hseeW := hsee.below hbW
  have hplW := plain_below hsee.log hpl hbW
  have HRP := Hid.mk' (impl_replay la ln lc s.2.1 W hseeW.log hplW (by omega) hfew)
  rw [hmade] at HRP
  have HOK := Hid.mk' (fun wx (hx : Below W.heap.size W wx) => impl_shardOk la ln lc ma mn mc ha hn hc s wx (hseeW.below hx) (plain_below hseeW.log hplW hx) hfew (by omega) (by omega))
  have HNE := Hid.mk' (fun wx => impl_shardNew s.1 wx)
  have HON := Hid.mk' (fun wx => impl_shardOk none 0 0 none 0 0 none 0 0 (s.1, [], 0, [], []) wx (ownSh_new wx s.1 hsee.id).see (fun b off e => by cases e) (fun r hr => absurd hr List.not_mem_nil) (by omega) (by omega))
  rw [hok] at HOK
  rw [hnew] at HNE
  rw [hokn] at HON
  have q1 := hbx.cell 1 _ rfl
  simp only [List.length_nil, Nat.zero_add] at q1
  rw [← hW] at q1
  have HW := Hid.mk' hW
  have HSW := Hid.mk' hseeW
  have HHN := Hid.mk' hhnl
  clear hW hOS hF hD hright hroom hpl hsee hmade hfew hok hnew hokn hplW hseeW hlnl hhnl
  go_wp2_with fail
  rw [HW.out]
  refine HRP.out.mono ?_
  rintro e w4 ⟨g, np, cp, g2, c2, hs, rfl, hO, hOR, _, hb4⟩
  simp only [resM, resH, Option.isSome_some] at hO hOR ⊢
  rw [← HHN.out] at hOR ⊢
  clear q1 HW HRP
  have hbx4 := hbx.below hb4
  have hB4 := hBW.trans (hb4.mono hBW.size)
  have q0 := hbx4.cell 0 _ rfl
  simp only [List.length_nil, Nat.zero_add] at q0
  go_wp2_with fail
  refine (HNE.out _).mono ?_
  rintro e w5 ⟨rfl, hb5⟩
  unfold nilShd
  clear q0 HNE
  have hbx5 := hbx4.below hb5
  have hB5 := hB4.trans (hb5.mono hB4.size)
  have h45 := hb4.trans (hb5.mono hb4.size)
  obtain ⟨V, hV⟩ : ∃ V, w5.alloc (boxSh s.1 0 none 0 0 none 0 0 none 0 0) = V := ⟨_, rfl⟩
  have hbV : Below w5.heap.size w5 V := by rw [← hV]; exact below_two
  have hnx : BoxIn w5.heap.size TSh [] (shVals s.1 0 none 0 0 none 0 0 none 0 0) [] V := by rw [← hV]; exact boxIn_new w5 _ _
  have hbxV := hbx5.below hbV
  have hBV := hB5.trans (hbV.mono hB5.size)
  have h4V := h45.trans (hbV.mono h45.size)
  have hs45 := hb5.size
  have hOV := (hO.below hb5).below hbV
  have hORV := (hOR.below hb5).below hbV
  have q0 := hbxV.cell 0 _ rfl
  have q1 := hbxV.cell 1 _ rfl
  have q2 := hbxV.cell 2 _ rfl
  have q3 := hbxV.cell 3 _ rfl
  have q4 := hbxV.cell 4 _ rfl
  simp only [List.length_nil, Nat.zero_add] at q0 q1 q2 q3 q4
  rw [← hV] at q0 q1 q2 q3 q4
  have HV := Hid.mk' hV
  have HOK1 := Hid.mk' (HOK.out V h4V)
  clear hV hO hOR HOK hbx hbx4 hbx5
  go_wp2_with fail
  rw [HV.out]
  refine HOK1.out.mono ?_
  rintro e w6 ⟨rfl, hb6⟩
  have hbx6 := hbxV.below hb6
  have hnx6 := hnx.below hb6
  have hB6 := hBV.trans (hb6.mono hBV.size)
  have h46 := h4V.trans (hb6.mono h4V.size)
  have hO6 := hOV.below hb6
  have hOR6 := hORV.below hb6
  clear q0 q1 q2 q3 q4 HV HOK1
  have HSP := Hid.mk' (samePairs (some ⟨g, 0, none⟩) ma np cp mn mc s.2.2.2.1 s.2.2.2.1 w6 hO6.sl (HSW.out.below h46).map)
  rw [decide_eq_true rfl] at HSP
  have q3 := hbx6.cell 3 _ rfl
  simp only [List.length_nil, Nat.zero_add] at q3
  go_wp2_with fail
  refine HSP.out.mono ?_
  rintro e w7 ⟨rfl, n7, hw7⟩
  have hb7 : Below w6.heap.size w6 w7 := by rw [hw7]; exact below_drewN (Below.refl _ _) _
  have hbx7 := hbx6.below hb7
  have hnx7 := hnx6.below hb7
  have hB7 := hB6.trans (hb7.mono hB6.size)
  have h47 := h46.trans (hb7.mono h46.size)
  have hOR7 := hOR6.below hb7
  clear q3 HSP hw7
  have HSR := Hid.mk' (sameRecsT (some ⟨g2, 0, none⟩) ha hn c2 hc s.2.2.2.2 w7 hOR7.sl (HSW.out.below h47).held)
  have q4 := hbx7.cell 4 _ rfl
  simp only [List.length_nil, Nat.zero_add] at q4
  go_wp2_with fail
  refine HSR.out.mono ?_
  rintro e w8 ⟨rfl, hb8⟩
  have hbx8 := hbx7.below hb8
  have hnx8 := hnx7.below hb8
  have hB8 := hB7.trans (hb8.mono hB7.size)
  clear q4 HSR
  have HON1 := Hid.mk' (HON.out w8)
  have q0 := hnx8.cell 0 _ rfl
  have q1 := hnx8.cell 1 _ rfl
  have q2 := hnx8.cell 2 _ rfl
  have q3 := hnx8.cell 3 _ rfl
  have q4 := hnx8.cell 4 _ rfl
  simp only [List.length_nil, Nat.zero_add] at q0 q1 q2 q3 q4
  clear HON
  go_wp2_with fail
  refine HON1.out.mono ?_
  rintro e w9 ⟨rfl, hb9⟩
  have hbx9 := hbx8.below hb9
  have hnx9 := hnx8.below hb9
  have hB9 := hB8.trans (hb9.mono hB8.size)
  clear q0 q1 q2 q3 q4 HON1
  have q0 := hnx9.cell 0 _ rfl
  have q1 := hnx9.cell 1 _ rfl
  have y0 := hbx9.cell 0 _ rfl
  simp only [List.length_nil, Nat.zero_add] at q0 q1 y0
  go_wp2_with fail
  go_ret
  exact ⟨rfl, hB9⟩

theorem own : ownKnob Try.prog.godebug = none := by kernel_rfl
theorem laidOut : laidOutB Try.prog = true := by kernel_rfl

set_option maxRecDepth 100000 in
theorem lifted (os : Os) (started : os.Started) (H : Type) (enc : TypeId × Value → H) :
    ReturnsInHanded {} Try.checked os 5 .any (Rows.fnShardsOkSpec.pre6 enc Try.prog Try.f5 Rows.fnShardsOkRow.domain false) (Rows.fnShardsOkSpec.post enc Try.prog Try.f5 false true false false) := by
  refine returnsInHanded_of_change (C := Try.checked) own started (by kernel_rfl) Try.func5
    (ChangeSpec.witness6 (enc := enc) (C := Try.checked) false ⟨#[], #[.slice none 0 0], []⟩ 8 (by kernel_rfl) (by kernel_rfl) (by kernel_rfl) (by kernel_rfl)) ?_
  intro W base args ds gs before hval0 hW hcnd _
  have hval : ∀ (j : Nat) t v, Try.f5.params[j]? = some t → args[j]? = some v → Value.okWide Try.prog W .any base t v := hval0
  have hW' := hW
  obtain ⟨p, q, hA0, hV, rfl, hfz, hnd⟩ := hW
  have hA : DataW.TrodAll enc Try.prog W 0 (fun _ => true) true Try.f5.params.toList args.toList ds p := hA0
  rw [Try.params5] at hA hval
  obtain ⟨v0, vs0, d0, ds0, p0, q0, hargs, rfl, rfl, h0, r0⟩ := trodAll_cons hA
  obtain ⟨rfl, rfl, rfl⟩ := trodAll_nil r0
  obtain rfl : args = #[v0] := by cases args; simp_all
  obtain ⟨rfl, rfl⟩ := trodVars_none hV
  obtain ⟨a0, len0, cap0, rfl⟩ := okWide_slice Try.underlying22 (hval 0 22 v0 rfl rfl)
  have k0 := h0
  have lt0 : ∀ x ∈ p0, x.block < W.heap.size := by obtain ⟨m, hm⟩ := k0; exact DataW.trod_lt m _ _ _ hm
  obtain ⟨b0, w0⟩ : ∃ bs, Sl W a0 len0 bs := by
    obtain ⟨fuel, hf⟩ := h0
    rcases open_ints Try.underlying22 Try.underlying5 (by kernel_rfl) hf with ⟨hcs, _⟩ | ⟨x, l, c, zs, hcs, _, hl, hm, hz, _, hcell, hwz⟩
    · simp [Value.cells] at hcs
      obtain ⟨rfl, rfl, rfl⟩ := hcs
      exact ⟨[], sl_nil _ _⟩
    · simp [Value.cells] at hcs
      obtain ⟨rfl, rfl, rfl⟩ := hcs
      exact ⟨_, sl_of_ints hl hm (by simpa using hz) hcell hwz⟩
  clear hA0 hval0
  refine (walk a0 len0 cap0 b0 W w0).mono fun e W' ⟨he, bel⟩ => ?_
  subst he
  exact ⟨_, rfl, _, _, _, [], _, [], hW', trodAll_mk1 (shut_bool Try.underlying4 _), (trodAll_cons_mk (Below.trod laidOut (by kernel_rfl) (of_decide_eq_true (by kernel_rfl)) k0 bel lt0) trodAll_mk0), rfl, bel.frame _, fun h => by cases h⟩

theorem over : Rows.fnShardsOkRow.holds Try.pinned (OpenSpec.ofChange Rows.fnShardsOkSpec) :=
  OpenClaim.holds_of_wide 5 Try.f5 rfl rfl rfl rfl rfl rfl rfl ⟨rfl, rfl, rfl, rfl, rfl⟩ rfl rfl rfl rfl rfl (by kernel_rfl) Try.func5 (by kernel_rfl)
    (of_decide_eq_true (by kernel_rfl)) (by unfold Func.isWrapper; first | (rw [if_pos (by decide +kernel)]; kernel_rfl) | (rw [if_neg (by decide +kernel)]; exact ⟨rfl, rfl⟩))
    (fun os started H enc _ => lifted os started H enc)

theorem proved : Rows.FnShardsOkSaid := over
end Go.Proofs.Ytdgolhcekomcmaa.fnShardsOk
