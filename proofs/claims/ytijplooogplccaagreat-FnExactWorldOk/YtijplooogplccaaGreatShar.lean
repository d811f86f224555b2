/- How orders and worlds lie in memory. No function of the program is named here. The specification's replay: one record more. The specification's replay: one record more, that is not held. -/
import Derived.Test.YtijplooogplccaaGreatShaj
import Derived.Test.YtijplooogplccaaGreatShak
import Derived.Test.YtijplooogplccaaGreatShaq
namespace Go.Proofs.YtijplooogplccaaGreat.wos
open Go Go.RowKit Go.Proofs.YtijplooogplccaaGreat.base Go.Proofs.YtijplooogplccaaGreat.pairs Go.Proofs.YtijplooogplccaaGreat.ords Go.Proofs.YtijplooogplccaaGreat.lay
set_option linter.unusedVariables false
set_option linter.unusedSimpArgs false

abbrev Orr := Int × List Od
abbrev Wo := cos.Co × List recs.Shd × List wds.Wd × List wds.Wd × List Orr
def ordR : Rd Orr := both int cos.opsR
def ordsR : Rd (List Orr) := slice 103 ordR
def shsR : Rd (List recs.Shd) := slice 55 shardR
def worldR : Rd Wo := both cos.coordR (both shsR (both cos.wordsR (both cos.wordsR ordsR)))
section
variable {w w' : World} {F : List Nat} {vs : List Value}
theorem ord_see {x : Orr} : ordR.see w vs x ↔ ∃ oa ol oc, vs = [.int .i64 x.1, .slice oa ol oc] ∧ (Lit.int .i64 x.1).wf = true ∧ SlO w oa ol x.2 ∧ ol ≤ oc := by
  constructor
  · rintro ⟨u1, t1, rfl, h1, h2⟩
    obtain ⟨rfl, k1⟩ := cos.flat_int.see.1 h1
    obtain ⟨oa, ol, oc, rfl, _⟩ := id h2
    have h6 := cos.ops_see.1 h2
    exact ⟨oa, ol, oc, rfl, k1, h6.1, h6.2⟩
  · rintro ⟨oa, ol, oc, rfl, k1, h4, h5⟩
    exact ⟨[_], [_], rfl, cos.flat_int.see.2 ⟨rfl, k1⟩, cos.ops_see.2 ⟨h4, h5⟩⟩
theorem ord_own {x : Orr} : ordR.own w vs x F ↔ ∃ v, vs = [.int .i64 x.1, v] ∧ (Lit.int .i64 x.1).wf = true ∧ cos.opsR.own w [v] x.2 F := by
  constructor
  · rintro ⟨u1, t1, F1, G1, rfl, rfl, h1, h2, _⟩
    obtain ⟨rfl, k1, rfl⟩ := cos.flat_int.own.1 h1
    obtain ⟨v, q, rfl, _⟩ := id h2
    exact ⟨v, rfl, k1, by simpa using h2⟩
  · rintro ⟨v, rfl, k1, h4⟩
    exact ⟨[_], [v], [], F, rfl, rfl, cos.flat_int.own.2 ⟨rfl, k1, rfl⟩, h4, cos.opsR.ownNodup h4⟩
theorem ord_at {b off len : Nat} {l : List Orr} (h : SlG ordR w (some ⟨b, off, none⟩) len l) (i : Nat) (hi : i < l.length) : w.cell? ⟨b, off + i * 2, none⟩ = some (.int .i64 l[i].1) ∧ ∃ oa ol oc, w.cell? ⟨b, off + i * 2 + 1, none⟩ = some (.slice oa ol oc) ∧ SlO w oa ol l[i].2 ∧ ol ≤ oc := by
  obtain ⟨b', off', e, hc⟩ := h.2.2.2 (by have := h.1; omega)
  simp only [Option.some.injEq, Addr.mk.injEq, and_true] at e
  obtain ⟨rfl, rfl⟩ := e
  obtain ⟨vs, hs, hcl⟩ := hc i hi
  obtain ⟨oa, ol, oc, rfl, k1, h5⟩ := ord_see.1 hs
  exact ⟨hcl 0 _ rfl, oa, ol, oc, hcl 1 _ rfl, h5⟩
theorem shard_at {b off len : Nat} {l : List recs.Shd} (h : SlG shardR w (some ⟨b, off, none⟩) len l) (i : Nat) (hi : i < l.length) : ∃ la ln lc ma mn mc ha hn hc, w.cell? ⟨b, off + i * 5, none⟩ = some (.int .i64 l[i].1) ∧ w.cell? ⟨b, off + i * 5 + 1, none⟩ = some (.slice la ln lc) ∧ w.cell? ⟨b, off + i * 5 + 2, none⟩ = some (.int .i64 l[i].2.2.1) ∧ w.cell? ⟨b, off + i * 5 + 3, none⟩ = some (.slice ma mn mc) ∧ w.cell? ⟨b, off + i * 5 + 4, none⟩ = some (.slice ha hn hc) ∧ SeeSh w la ln lc ma mn mc ha hn hc l[i] := by
  obtain ⟨b', off', e, hc⟩ := h.2.2.2 (by have := h.1; omega)
  simp only [Option.some.injEq, Addr.mk.injEq, and_true] at e
  obtain ⟨rfl, rfl⟩ := e
  obtain ⟨vs, hs, hcl⟩ := hc i hi
  obtain ⟨la, ln, lc, ma, mn, mc, ha, hn, hc, rfl, h5⟩ := shard_see.1 hs
  exact ⟨la, ln, lc, ma, mn, mc, ha, hn, hc, hcl 0 _ rfl, hcl 1 _ rfl, hcl 2 _ rfl, hcl 3 _ rfl, hcl 4 _ rfl, h5⟩
theorem word_at {b off len : Nat} {l : List wds.Wd} (h : SlG cos.wordR w (some ⟨b, off, none⟩) len l) (i : Nat) (hi : i < l.length) : ∃ oa ol oc, w.cell? ⟨b, off + i * 5, none⟩ = some (.int .i64 l[i].1) ∧ w.cell? ⟨b, off + i * 5 + 1, none⟩ = some (.int .i64 l[i].2.1) ∧ w.cell? ⟨b, off + i * 5 + 2, none⟩ = some (.int .i64 l[i].2.2.1) ∧ w.cell? ⟨b, off + i * 5 + 3, none⟩ = some (.slice oa ol oc) ∧ w.cell? ⟨b, off + i * 5 + 4, none⟩ = some (.bool l[i].2.2.2.2) ∧ SlO w oa ol l[i].2.2.2.1 ∧ ol ≤ oc ∧ (Lit.int .i64 l[i].1).wf = true ∧ (Lit.int .i64 l[i].2.1).wf = true ∧ (Lit.int .i64 l[i].2.2.1).wf = true := by
  obtain ⟨b', off', e, hc⟩ := h.2.2.2 (by have := h.1; omega)
  simp only [Option.some.injEq, Addr.mk.injEq, and_true] at e
  obtain ⟨rfl, rfl⟩ := e
  obtain ⟨vs, hs, hcl⟩ := hc i hi
  obtain ⟨oa, ol, oc, rfl, k1, k2, k3, h5⟩ := cos.word_see.1 hs
  exact ⟨oa, ol, oc, hcl 0 _ rfl, hcl 1 _ rfl, hcl 2 _ rfl, hcl 3 _ rfl, hcl 4 _ rfl, h5.1, h5.2, k1, k2, k3⟩
theorem cells5 {X : Nat} {T : TypeId} {w : World} {v0 v1 v2 v3 v4 : Value} (h : BoxIn X T [] [v0, v1, v2, v3, v4] [] w) : w.cell? ⟨X, 0, none⟩ = some v0 ∧ w.cell? ⟨X, 1, none⟩ = some v1 ∧ w.cell? ⟨X, 2, none⟩ = some v2 ∧ w.cell? ⟨X, 3, none⟩ = some v3 ∧ w.cell? ⟨X, 4, none⟩ = some v4 := by
  have a0 := h.cell 0 _ rfl
  have a1 := h.cell 1 _ rfl
  have a2 := h.cell 2 _ rfl
  have a3 := h.cell 3 _ rfl
  have a4 := h.cell 4 _ rfl
  simp only [List.length_nil, Nat.zero_add] at a0 a1 a2 a3 a4
  exact ⟨a0, a1, a2, a3, a4⟩
structure SeeWo (w : World) (ja : Option Addr) (jn jc : Nat) (la : Option Addr) (ln lc : Nat) (sa : Option Addr) (sn sc : Nat) (na : Option Addr) (nn nc : Nat) (oa : Option Addr) (on oc : Nat) (ba : Option Addr) (bn bc : Nat) (x : Wo) : Prop where
  co : cos.SeeCo w ja jn jc la ln lc x.1
  sh : SlG shardR w sa sn x.2.1
  net : SlG cos.wordR w na nn x.2.2.1
  outs : SlG cos.wordR w oa on x.2.2.2.1
  begun : SlG ordR w ba bn x.2.2.2.2
  shc : sn ≤ sc
  netc : nn ≤ nc
  outc : on ≤ oc
  begc : bn ≤ bc
theorem SeeWo.below {ja : Option Addr} {jn jc : Nat} {la : Option Addr} {ln lc : Nat} {sa : Option Addr} {sn sc : Nat} {na : Option Addr} {nn nc : Nat} {oa : Option Addr} {on oc : Nat} {ba : Option Addr} {bn bc : Nat} {x : Wo} (h : SeeWo w ja jn jc la ln lc sa sn sc na nn nc oa on oc ba bn bc x) (hb : Below w.heap.size w w') : SeeWo w' ja jn jc la ln lc sa sn sc na nn nc oa on oc ba bn bc x := ⟨h.co.below hb, h.sh.below hb, h.net.below hb, h.outs.below hb, h.begun.below hb, h.shc, h.netc, h.outc, h.begc⟩
theorem world_see {x : Wo} : worldR.see w vs x ↔ ∃ ja jn jc la ln lc sa sn sc na nn nc oa on oc ba bn bc, vs = [.int .i64 x.1.1, .int .i64 x.1.2.1, .int .i64 x.1.2.2.1, .slice ja jn jc, .slice la ln lc, .int .i64 x.1.2.2.2.2.2, .slice sa sn sc, .slice na nn nc, .slice oa on oc, .slice ba bn bc] ∧ SeeWo w ja jn jc la ln lc sa sn sc na nn nc oa on oc ba bn bc x := by
  constructor
  · rintro ⟨u1, t1, rfl, h1, u2, t2, rfl, h2, u3, t3, rfl, h3, u4, t4, rfl, h4, h5⟩
    obtain ⟨ja, jn, jc, la, ln, lc, rfl, k1⟩ := cos.coord_see.1 h1
    obtain ⟨sa, sn, sc, rfl, s1, s2⟩ := h2
    obtain ⟨na, nn, nc, rfl, n1, n2⟩ := h3
    obtain ⟨oa, on, oc, rfl, o1, o2⟩ := h4
    obtain ⟨ba, bn, bc, rfl, b1, b2⟩ := h5
    exact ⟨ja, jn, jc, la, ln, lc, sa, sn, sc, na, nn, nc, oa, on, oc, ba, bn, bc, rfl, k1, s2, n2, o2, b2, s1, n1, o1, b1⟩
  · rintro ⟨ja, jn, jc, la, ln, lc, sa, sn, sc, na, nn, nc, oa, on, oc, ba, bn, bc, rfl, h⟩
    exact ⟨cos.coVals x.1.1 x.1.2.1 x.1.2.2.1 x.1.2.2.2.2.2 ja jn jc la ln lc, [_, _, _, _], rfl, cos.coord_see.2 ⟨_, _, _, _, _, _, rfl, h.co⟩, [_], [_, _, _], rfl, ⟨_, _, _, rfl, h.shc, h.sh⟩, [_], [_, _], rfl, ⟨_, _, _, rfl, h.netc, h.net⟩, [_], [_], rfl, ⟨_, _, _, rfl, h.outc, h.outs⟩, ⟨_, _, _, rfl, h.begc, h.begun⟩⟩
theorem see_wo {x : Wo} {ja : Option Addr} {jn jc : Nat} {la : Option Addr} {ln lc : Nat} {sa : Option Addr} {sn sc : Nat} {na : Option Addr} {nn nc : Nat} {oa : Option Addr} {on oc : Nat} {ba : Option Addr} {bn bc : Nat} (h : worldR.see w [.int .i64 x.1.1, .int .i64 x.1.2.1, .int .i64 x.1.2.2.1, .slice ja jn jc, .slice la ln lc, .int .i64 x.1.2.2.2.2.2, .slice sa sn sc, .slice na nn nc, .slice oa on oc, .slice ba bn bc] x) : SeeWo w ja jn jc la ln lc sa sn sc na nn nc oa on oc ba bn bc x := by
  obtain ⟨ja', jn', jc', la', ln', lc', sa', sn', sc', na', nn', nc', oa', on', oc', ba', bn', bc', e, h⟩ := world_see.1 h
  simp only [List.cons.injEq, Value.slice.injEq, and_true, true_and] at e
  obtain ⟨⟨rfl, rfl, rfl⟩, ⟨rfl, rfl, rfl⟩, ⟨rfl, rfl, rfl⟩, ⟨rfl, rfl, rfl⟩, ⟨rfl, rfl, rfl⟩, ⟨rfl, rfl, rfl⟩⟩ := e
  exact h
theorem world_see10 {x : Wo} {u0 u1 u2 u3 u4 u5 u6 u7 u8 u9 : Value} (h : worldR.see w [u0, u1, u2, u3, u4, u5, u6, u7, u8, u9] x) : ∃ ja jn jc la ln lc sa sn sc na nn nc oa on oc ba bn bc, u0 = .int .i64 x.1.1 ∧ u1 = .int .i64 x.1.2.1 ∧ u2 = .int .i64 x.1.2.2.1 ∧ u3 = .slice ja jn jc ∧ u4 = .slice la ln lc ∧ u5 = .int .i64 x.1.2.2.2.2.2 ∧ u6 = .slice sa sn sc ∧ u7 = .slice na nn nc ∧ u8 = .slice oa on oc ∧ u9 = .slice ba bn bc ∧ SeeWo w ja jn jc la ln lc sa sn sc na nn nc oa on oc ba bn bc x := by
  obtain ⟨ja, jn, jc, la, ln, lc, sa, sn, sc, na, nn, nc, oa, on, oc, ba, bn, bc, e, h⟩ := world_see.1 h
  simp only [List.cons.injEq, and_true] at e
  obtain ⟨e0, e1, e2, e3, e4, e5, e6, e7, e8, e9⟩ := e
  exact ⟨ja, jn, jc, la, ln, lc, sa, sn, sc, na, nn, nc, oa, on, oc, ba, bn, bc, e0, e1, e2, e3, e4, e5, e6, e7, e8, e9, h⟩
theorem world_own {x : Wo} : worldR.own w vs x F ↔ ∃ us v1 v2 v3 v4 F0 F1 F2 F3 F4, vs = us ++ [v1, v2, v3, v4] ∧ F = F0 ++ (F1 ++ (F2 ++ (F3 ++ F4))) ∧ cos.coordR.own w us x.1 F0 ∧ shsR.own w [v1] x.2.1 F1 ∧ cos.wordsR.own w [v2] x.2.2.1 F2 ∧ cos.wordsR.own w [v3] x.2.2.2.1 F3 ∧ ordsR.own w [v4] x.2.2.2.2 F4 ∧ F.Nodup := by
  constructor
  · rintro ⟨u1, t1, F0, G0, rfl, rfl, h1, ⟨u2, t2, F1, G1, rfl, rfl, h2, ⟨u3, t3, F2, G2, rfl, rfl, h3, ⟨u4, t4, F3, F4, rfl, rfl, h4, h5, _⟩, _⟩, _⟩, hn⟩
    obtain ⟨v1, q1, rfl, _⟩ := id h2
    obtain ⟨v2, q2, rfl, _⟩ := id h3
    obtain ⟨v3, q3, rfl, _⟩ := id h4
    obtain ⟨v4, q4, rfl, _⟩ := id h5
    exact ⟨u1, v1, v2, v3, v4, F0, F1, F2, F3, F4, rfl, rfl, h1, h2, h3, h4, h5, hn⟩
  · rintro ⟨us, v1, v2, v3, v4, F0, F1, F2, F3, F4, rfl, rfl, h1, h2, h3, h4, h5, hn⟩
    have n1 := (nodup_parts hn).2.1
    have n2 := (nodup_parts n1).2.1
    have n3 := (nodup_parts n2).2.1
    exact ⟨us, [v1, v2, v3, v4], F0, _, rfl, rfl, h1, ⟨[v1], [v2, v3, v4], F1, _, rfl, rfl, h2, ⟨[v2], [v3, v4], F2, _, rfl, rfl, h3, ⟨[v3], [v4], F3, F4, rfl, rfl, h4, h5, n3⟩, n2⟩, n1⟩, hn⟩
theorem world_shape {x : Wo} (h : worldR.own w vs x F) : ∃ ja jn jc la ln lc sa sn sc na nn nc oa on oc ba bn bc, vs = [.int .i64 x.1.1, .int .i64 x.1.2.1, .int .i64 x.1.2.2.1, .slice ja jn jc, .slice la ln lc, .int .i64 x.1.2.2.2.2.2, .slice sa sn sc, .slice na nn nc, .slice oa on oc, .slice ba bn bc] := by
  obtain ⟨ja, jn, jc, la, ln, lc, sa, sn, sc, na, nn, nc, oa, on, oc, ba, bn, bc, e, _⟩ := world_see.1 (worldR.ownSee h)
  exact ⟨ja, jn, jc, la, ln, lc, sa, sn, sc, na, nn, nc, oa, on, oc, ba, bn, bc, e⟩
end
end Go.Proofs.YtijplooogplccaaGreat.wos

namespace Go.Proofs.YtijplooogplccaaGreat.recs
open Go Go.RowKit Go.Proofs.YtijplooogplccaaGreat.base Go.Proofs.YtijplooogplccaaGreat.pairs Go.Proofs.YtijplooogplccaaGreat.ords
set_option linter.unusedVariables false
set_option linter.unusedSimpArgs false

def OnePost (N : Prop) (w0 : World) (F0 : List Nat) (X : Nat) (r : Option St) (e : Ending) (w' : World) : Prop :=
  match r with
  | none => e = .returned (.bool false) ∧ lay.Frame (X :: F0) w0 w'
  | some t => e = .returned (.bool true) ∧ ∃ am nm cm ah ch vs hs, Kept N w0 F0 w' X am nm cm ah ch vs t hs

def OverPost (N : Prop) (w0 : World) (F0 : List Nat) (X : Nat) (t : St) (e : Ending) (w' : World) : Prop := e = .returned (.bool false) ∧ ∃ am nm cm ah ch vs hs, Kept N w0 F0 w' X am nm cm ah ch vs t hs
theorem OverPost.none {N : Prop} {w0 w' : World} {F0 : List Nat} {X : Nat} {t : St} {e : Ending} (h : OverPost N w0 F0 X t e w') : OnePost N w0 F0 X none e w' := by
  obtain ⟨h1, _, _, _, _, _, _, _, hK⟩ := h
  exact ⟨h1, hK.fr⟩
set_option maxRecDepth 100000 in
set_option maxHeartbeats 4000000 in
theorem one_bad (N : Prop) (w0 : World) (F0 : List Nat) (w : World) (X : Nat) (am : Option Addr) (nm cm : Nat) (ah : Option Addr) (ch : Nat) (vs : Value) (s : St) (hs : List Value) (kind tx : Int) (a : Option Addr) (len cap : Nat) (ops : List Od)
    (hK : Kept N w0 F0 w X am nm cm ah ch vs s hs) (hSo : SlO w a len ops) (hks : ∀ p ∈ ops, p.2.1.size ≤ 1099511627776) (hok : recOk (kind, tx, ops) = false) :
    Calls Tryz.prog 85 #[.pointer (some ⟨X, 0, none⟩), .agg #[.int .i64 kind, .int .i64 tx, .slice a len cap]] w (OnePost N w0 F0 X none) := by
  obtain ⟨V, hV⟩ : ∃ V, V = w.alloc (.cells #[.int .i64 kind, .int .i64 tx, .slice a len cap] 133) := ⟨_, rfl⟩
  have hbV : Below w.heap.size w V := by rw [hV]; exact (Below.refl _ _).alloc (Nat.le_refl _) _
  have hbx : BoxR w.heap.size kind tx (.slice a len cap) V := by rw [hV]; exact boxR_new _ _ _ _
  have hKV := hK.below hbV
  have hXl := hKV.box.lt
  have hRl := hbx.lt
  have y1 := last.On.cell (B := V.heap.size) hKV.box.cells.2.1 hXl
  have y2 := last.On.cell (B := V.heap.size) hbx.cells.2.1 hRl
  have hAt : ∀ x9 : last.On V.heap.size V, Calls Tryz.prog 123 #[.slice ah s.2.1.length ch, .int .i64 tx] x9.w fun e w' => e = .returned (.int .i64 (atRet (placeTx tx s.2.1))) ∧ ∃ y9 : last.On V.heap.size V, w' = y9.w := fun x9 => last.Calls.on x9 (Nat.le_refl _) ((spec_l8At _ _ ch s.2.1 tx x9.w (hKV.held.below x9.2).sl).mono (fun e w' h => ⟨h.1, h.2 ▸ Below.refl _ _⟩))
  have hinh := last.On.inh V.heap.size V
  have HV := Hid.mk' hV.symm
  clear hV
  go_enter Tryz.func85, Tryz.ntmps85
  go_wp2_with fail
  rw [HV.out]
  refine last.wp_region_on V.heap.size (by kernel_rfl) (by kernel_rfl) ?_
  repeat (go_big_quiet_step ((go_at_call 123; with_reducible exact hAt _)))
  refine wpQuiet_nil ?_
  intro w1 hw1
  obtain ⟨x1, hw1⟩ := hw1
  have hb1 : Below V.heap.size V w1 := by rw [hw1]; exact x1.2
  clear hw1 x1
  have hbx1 := hbx.below hb1
  have hK1 := hKV.below hb1
  have HOK := Hid.mk' (spec_recOk kind tx a len cap ops w1 ((hSo.below hbV).below hb1) hks)
  obtain ⟨d0, d1, d2⟩ := hbx1.cells
  clear y1 y2 hAt hinh
  go_wp2_with fail
  refine HOK.out.mono ?_
  rintro e w2 ⟨rfl, hb2⟩
  rw [hok]
  have hK2 := hK1.below hb2
  go_wp2_with fail
  go_ret
  exact ⟨rfl, hK2.fr⟩
end Go.Proofs.YtijplooogplccaaGreat.recs

namespace Go.Proofs.YtijplooogplccaaGreat.recs
open Go Go.RowKit Go.Proofs.YtijplooogplccaaGreat.base Go.Proofs.YtijplooogplccaaGreat.pairs Go.Proofs.YtijplooogplccaaGreat.ords
set_option linter.unusedVariables false
set_option linter.unusedSimpArgs false

set_option maxRecDepth 100000 in
set_option maxHeartbeats 4000000 in
theorem one_has (N : Prop) (w0 : World) (F0 : List Nat) (w : World) (X : Nat) (am : Option Addr) (nm cm : Nat) (ah : Option Addr) (ch : Nat) (vs : Value) (s : St) (hs : List Value) (tx : Int) (a : Option Addr) (len cap : Nat) (ops : List Od)
    (hK : Kept N w0 F0 w X am nm cm ah ch vs s hs) (hSo : SlO w a len ops) (hks : ∀ p ∈ ops, p.2.1.size ≤ 1099511627776) (hok : recOk (1, tx, ops) = true) (h1 : decide (tx ∈ s.2.2) = true) :
    Calls Tryz.prog 85 #[.pointer (some ⟨X, 0, none⟩), .agg #[.int .i64 1, .int .i64 tx, .slice a len cap]] w (OnePost N w0 F0 X none) := by
  obtain ⟨sa, sc, hvs, hSz⟩ := hK.seen.sl
  subst hvs
  obtain ⟨V, hV⟩ : ∃ V, V = w.alloc (.cells #[.int .i64 1, .int .i64 tx, .slice a len cap] 133) := ⟨_, rfl⟩
  have hbV : Below w.heap.size w V := by rw [hV]; exact (Below.refl _ _).alloc (Nat.le_refl _) _
  have hbx : BoxR w.heap.size 1 tx (.slice a len cap) V := by rw [hV]; exact boxR_new _ _ _ _
  have hKV := hK.below hbV
  have hXl := hKV.box.lt
  have hRl := hbx.lt
  have y1 := last.On.cell (B := V.heap.size) hKV.box.cells.2.1 hXl
  have y2 := last.On.cell (B := V.heap.size) hbx.cells.2.1 hRl
  have hAt : ∀ x9 : last.On V.heap.size V, Calls Tryz.prog 123 #[.slice ah s.2.1.length ch, .int .i64 tx] x9.w fun e w' => e = .returned (.int .i64 (atRet (placeTx tx s.2.1))) ∧ ∃ y9 : last.On V.heap.size V, w' = y9.w := fun x9 => last.Calls.on x9 (Nat.le_refl _) ((spec_l8At _ _ ch s.2.1 tx x9.w (hKV.held.below x9.2).sl).mono (fun e w' h => ⟨h.1, h.2 ▸ Below.refl _ _⟩))
  have hinh := last.On.inh V.heap.size V
  have HV := Hid.mk' hV.symm
  clear hV
  generalize hP : atRet (placeTx tx s.2.1) = P at hAt
  go_enter Tryz.func85, Tryz.ntmps85
  go_wp2_with fail
  rw [HV.out]
  refine last.wp_region_on V.heap.size (by kernel_rfl) (by kernel_rfl) ?_
  repeat (go_big_quiet_step ((go_at_call 123; with_reducible exact hAt _)))
  refine wpQuiet_nil ?_
  intro w1 hw1
  obtain ⟨x1, hw1⟩ := hw1
  have hb1 : Below V.heap.size V w1 := by rw [hw1]; exact x1.2
  clear hw1 x1
  have hbx1 := hbx.below hb1
  have hK1 := hKV.below hb1
  have HOK := Hid.mk' (spec_recOk 1 tx a len cap ops w1 ((hSo.below hbV).below hb1) hks)
  obtain ⟨d0, d1, d2⟩ := hbx1.cells
  clear y1 y2 hAt hinh
  go_wp2_with fail
  refine HOK.out.mono ?_
  rintro e w2 ⟨rfl, hb2⟩
  rw [hok]
  have hK2 := hK1.below hb2
  have hbx2 := hbx1.below hb2
  have hSo2 := ((hSo.below hbV).below hb1).below hb2
  have hSz2 := ((hSz.below hbV).below hb1).below hb2
  clear d0 d1 d2 HOK HV hbx1 hbx hKV hXl hRl
  obtain ⟨d0, d1, d2⟩ := hbx2.cells
  have hX2 := hK2.box.lt
  have hR2 := hbx2.lt
  have o0 := last.On.cell (B := w2.heap.size) hK2.box.cells.1 hX2
  have o1 := last.On.cell (B := w2.heap.size) hK2.box.cells.2.1 hX2
  have o2 := last.On.cell (B := w2.heap.size) hK2.box.cells.2.2 hX2
  have o3 := last.On.cell (B := w2.heap.size) hbx2.cells.1 hR2
  have o4 := last.On.cell (B := w2.heap.size) hbx2.cells.2.1 hR2
  have o5 := last.On.cell (B := w2.heap.size) hbx2.cells.2.2 hR2
  have hinh2 := last.On.inh w2.heap.size w2
  have hHas : ∀ x9 : last.On w2.heap.size w2, Calls Tryz.prog 83 #[.slice sa s.2.2.length sc, .int .i64 tx] x9.w fun e w' => e = .returned (.bool (decide (tx ∈ s.2.2))) ∧ ∃ y9 : last.On w2.heap.size w2, w' = y9.w := fun x9 => last.Calls.on x9 (Nat.le_refl _) ((spec_l7Has sa s.2.2.length sc s.2.2 tx x9.w (hSz2.below x9.2)).mono (fun e w' h => ⟨h.1, h.2 ▸ Below.refl _ _⟩))
  have hLk : ∀ x9 : last.On w2.heap.size w2, Calls Tryz.prog 125 #[.slice ah s.2.1.length ch, .slice a len cap] x9.w fun e w' => e = .returned (.bool (locked s.2.1 ops)) ∧ ∃ y9 : last.On w2.heap.size w2, w' = y9.w := fun x9 => last.Calls.on x9 (Nat.le_refl _) (spec_locked _ _ ch s.2.1 a len cap ops x9.w (hK2.held.below x9.2).sl (hSo2.below x9.2))
  have hMt : ∀ x9 : last.On w2.heap.size w2, Calls Tryz.prog 126 #[.slice am nm cm, .slice a len cap] x9.w fun e w' => e = .returned (.bool (meets s.1 ops)) ∧ ∃ y9 : last.On w2.heap.size w2, w' = y9.w := fun x9 => last.Calls.on x9 (Nat.le_refl _) (spec_meets _ nm cm s.1 a len cap ops x9.w (hK2.m.below x9.2).sl (hSo2.below x9.2))
  rw [h1] at hHas
  go_wp2_with fail
  refine last.wp_region_on w2.heap.size (by kernel_rfl) (by kernel_rfl) ?_
  repeat (go_big_quiet_step (first | (go_at_call 83; with_reducible exact hHas _) | (go_at_call 125; with_reducible exact hLk _) | (go_at_call 126; with_reducible exact hMt _)))
  refine wpQuiet_nil ?_
  intro w5 hw5
  obtain ⟨x5, hw5⟩ := hw5
  have hb5 : Below w2.heap.size w2 w5 := by rw [hw5]; exact x5.2
  clear hw5 x5 hinh2 o0 o1 o2 o3 o4 o5 hHas hLk hMt d0 d1 d2
  have hK5 := hK2.below hb5
  go_wp2_with fail
  go_ret
  exact ⟨rfl, hK5.fr⟩
set_option maxRecDepth 100000 in
set_option maxHeartbeats 4000000 in
theorem one_locked (N : Prop) (w0 : World) (F0 : List Nat) (w : World) (X : Nat) (am : Option Addr) (nm cm : Nat) (ah : Option Addr) (ch : Nat) (vs : Value) (s : St) (hs : List Value) (tx : Int) (a : Option Addr) (len cap : Nat) (ops : List Od)
    (hK : Kept N w0 F0 w X am nm cm ah ch vs s hs) (hSo : SlO w a len ops) (hks : ∀ p ∈ ops, p.2.1.size ≤ 1099511627776) (hok : recOk (1, tx, ops) = true) (h1 : decide (tx ∈ s.2.2) = false) (h2 : locked s.2.1 ops = true) :
    Calls Tryz.prog 85 #[.pointer (some ⟨X, 0, none⟩), .agg #[.int .i64 1, .int .i64 tx, .slice a len cap]] w (OnePost N w0 F0 X none) := by
  obtain ⟨sa, sc, hvs, hSz⟩ := hK.seen.sl
  subst hvs
  obtain ⟨V, hV⟩ : ∃ V, V = w.alloc (.cells #[.int .i64 1, .int .i64 tx, .slice a len cap] 133) := ⟨_, rfl⟩
  have hbV : Below w.heap.size w V := by rw [hV]; exact (Below.refl _ _).alloc (Nat.le_refl _) _
  have hbx : BoxR w.heap.size 1 tx (.slice a len cap) V := by rw [hV]; exact boxR_new _ _ _ _
  have hKV := hK.below hbV
  have hXl := hKV.box.lt
  have hRl := hbx.lt
  have y1 := last.On.cell (B := V.heap.size) hKV.box.cells.2.1 hXl
  have y2 := last.On.cell (B := V.heap.size) hbx.cells.2.1 hRl
  have hAt : ∀ x9 : last.On V.heap.size V, Calls Tryz.prog 123 #[.slice ah s.2.1.length ch, .int .i64 tx] x9.w fun e w' => e = .returned (.int .i64 (atRet (placeTx tx s.2.1))) ∧ ∃ y9 : last.On V.heap.size V, w' = y9.w := fun x9 => last.Calls.on x9 (Nat.le_refl _) ((spec_l8At _ _ ch s.2.1 tx x9.w (hKV.held.below x9.2).sl).mono (fun e w' h => ⟨h.1, h.2 ▸ Below.refl _ _⟩))
  have hinh := last.On.inh V.heap.size V
  have HV := Hid.mk' hV.symm
  clear hV
  generalize hP : atRet (placeTx tx s.2.1) = P at hAt
  go_enter Tryz.func85, Tryz.ntmps85
  go_wp2_with fail
  rw [HV.out]
  refine last.wp_region_on V.heap.size (by kernel_rfl) (by kernel_rfl) ?_
  repeat (go_big_quiet_step ((go_at_call 123; with_reducible exact hAt _)))
  refine wpQuiet_nil ?_
  intro w1 hw1
  obtain ⟨x1, hw1⟩ := hw1
  have hb1 : Below V.heap.size V w1 := by rw [hw1]; exact x1.2
  clear hw1 x1
  have hbx1 := hbx.below hb1
  have hK1 := hKV.below hb1
  have HOK := Hid.mk' (spec_recOk 1 tx a len cap ops w1 ((hSo.below hbV).below hb1) hks)
  obtain ⟨d0, d1, d2⟩ := hbx1.cells
  clear y1 y2 hAt hinh
  go_wp2_with fail
  refine HOK.out.mono ?_
  rintro e w2 ⟨rfl, hb2⟩
  rw [hok]
  have hK2 := hK1.below hb2
  have hbx2 := hbx1.below hb2
  have hSo2 := ((hSo.below hbV).below hb1).below hb2
  have hSz2 := ((hSz.below hbV).below hb1).below hb2
  clear d0 d1 d2 HOK HV hbx1 hbx hKV hXl hRl
  obtain ⟨d0, d1, d2⟩ := hbx2.cells
  have hX2 := hK2.box.lt
  have hR2 := hbx2.lt
  have o0 := last.On.cell (B := w2.heap.size) hK2.box.cells.1 hX2
  have o1 := last.On.cell (B := w2.heap.size) hK2.box.cells.2.1 hX2
  have o2 := last.On.cell (B := w2.heap.size) hK2.box.cells.2.2 hX2
  have o3 := last.On.cell (B := w2.heap.size) hbx2.cells.1 hR2
  have o4 := last.On.cell (B := w2.heap.size) hbx2.cells.2.1 hR2
  have o5 := last.On.cell (B := w2.heap.size) hbx2.cells.2.2 hR2
  have hinh2 := last.On.inh w2.heap.size w2
  have hHas : ∀ x9 : last.On w2.heap.size w2, Calls Tryz.prog 83 #[.slice sa s.2.2.length sc, .int .i64 tx] x9.w fun e w' => e = .returned (.bool (decide (tx ∈ s.2.2))) ∧ ∃ y9 : last.On w2.heap.size w2, w' = y9.w := fun x9 => last.Calls.on x9 (Nat.le_refl _) ((spec_l7Has sa s.2.2.length sc s.2.2 tx x9.w (hSz2.below x9.2)).mono (fun e w' h => ⟨h.1, h.2 ▸ Below.refl _ _⟩))
  have hLk : ∀ x9 : last.On w2.heap.size w2, Calls Tryz.prog 125 #[.slice ah s.2.1.length ch, .slice a len cap] x9.w fun e w' => e = .returned (.bool (locked s.2.1 ops)) ∧ ∃ y9 : last.On w2.heap.size w2, w' = y9.w := fun x9 => last.Calls.on x9 (Nat.le_refl _) (spec_locked _ _ ch s.2.1 a len cap ops x9.w (hK2.held.below x9.2).sl (hSo2.below x9.2))
  have hMt : ∀ x9 : last.On w2.heap.size w2, Calls Tryz.prog 126 #[.slice am nm cm, .slice a len cap] x9.w fun e w' => e = .returned (.bool (meets s.1 ops)) ∧ ∃ y9 : last.On w2.heap.size w2, w' = y9.w := fun x9 => last.Calls.on x9 (Nat.le_refl _) (spec_meets _ nm cm s.1 a len cap ops x9.w (hK2.m.below x9.2).sl (hSo2.below x9.2))
  rw [h1] at hHas
  rw [h2] at hLk
  go_wp2_with fail
  refine last.wp_region_on w2.heap.size (by kernel_rfl) (by kernel_rfl) ?_
  repeat (go_big_quiet_step (first | (go_at_call 83; with_reducible exact hHas _) | (go_at_call 125; with_reducible exact hLk _) | (go_at_call 126; with_reducible exact hMt _)))
  refine wpQuiet_nil ?_
  intro w5 hw5
  obtain ⟨x5, hw5⟩ := hw5
  have hb5 : Below w2.heap.size w2 w5 := by rw [hw5]; exact x5.2
  clear hw5 x5 hinh2 o0 o1 o2 o3 o4 o5 hHas hLk hMt d0 d1 d2
  have hK5 := hK2.below hb5
  go_wp2_with fail
  go_ret
  exact ⟨rfl, hK5.fr⟩
set_option maxRecDepth 100000 in
set_option maxHeartbeats 4000000 in
theorem one_unmet (N : Prop) (w0 : World) (F0 : List Nat) (w : World) (X : Nat) (am : Option Addr) (nm cm : Nat) (ah : Option Addr) (ch : Nat) (vs : Value) (s : St) (hs : List Value) (tx : Int) (a : Option Addr) (len cap : Nat) (ops : List Od)
    (hK : Kept N w0 F0 w X am nm cm ah ch vs s hs) (hSo : SlO w a len ops) (hks : ∀ p ∈ ops, p.2.1.size ≤ 1099511627776) (hok : recOk (1, tx, ops) = true) (h1 : decide (tx ∈ s.2.2) = false) (h2 : locked s.2.1 ops = false) (h3 : meets s.1 ops = false) :
    Calls Tryz.prog 85 #[.pointer (some ⟨X, 0, none⟩), .agg #[.int .i64 1, .int .i64 tx, .slice a len cap]] w (OnePost N w0 F0 X none) := by
  obtain ⟨sa, sc, hvs, hSz⟩ := hK.seen.sl
  subst hvs
  obtain ⟨V, hV⟩ : ∃ V, V = w.alloc (.cells #[.int .i64 1, .int .i64 tx, .slice a len cap] 133) := ⟨_, rfl⟩
  have hbV : Below w.heap.size w V := by rw [hV]; exact (Below.refl _ _).alloc (Nat.le_refl _) _
  have hbx : BoxR w.heap.size 1 tx (.slice a len cap) V := by rw [hV]; exact boxR_new _ _ _ _
  have hKV := hK.below hbV
  have hXl := hKV.box.lt
  have hRl := hbx.lt
  have y1 := last.On.cell (B := V.heap.size) hKV.box.cells.2.1 hXl
  have y2 := last.On.cell (B := V.heap.size) hbx.cells.2.1 hRl
  have hAt : ∀ x9 : last.On V.heap.size V, Calls Tryz.prog 123 #[.slice ah s.2.1.length ch, .int .i64 tx] x9.w fun e w' => e = .returned (.int .i64 (atRet (placeTx tx s.2.1))) ∧ ∃ y9 : last.On V.heap.size V, w' = y9.w := fun x9 => last.Calls.on x9 (Nat.le_refl _) ((spec_l8At _ _ ch s.2.1 tx x9.w (hKV.held.below x9.2).sl).mono (fun e w' h => ⟨h.1, h.2 ▸ Below.refl _ _⟩))
  have hinh := last.On.inh V.heap.size V
  have HV := Hid.mk' hV.symm
  clear hV
  generalize hP : atRet (placeTx tx s.2.1) = P at hAt
  go_enter Tryz.func85, Tryz.ntmps85
  go_wp2_with fail
  rw [HV.out]
  refine last.wp_region_on V.heap.size (by kernel_rfl) (by kernel_rfl) ?_
  repeat (go_big_quiet_step ((go_at_call 123; with_reducible exact hAt _)))
  refine wpQuiet_nil ?_
  intro w1 hw1
  obtain ⟨x1, hw1⟩ := hw1
  have hb1 : Below V.heap.size V w1 := by rw [hw1]; exact x1.2
  clear hw1 x1
  have hbx1 := hbx.below hb1
  have hK1 := hKV.below hb1
  have HOK := Hid.mk' (spec_recOk 1 tx a len cap ops w1 ((hSo.below hbV).below hb1) hks)
  obtain ⟨d0, d1, d2⟩ := hbx1.cells
  clear y1 y2 hAt hinh
  go_wp2_with fail
  refine HOK.out.mono ?_
  rintro e w2 ⟨rfl, hb2⟩
  rw [hok]
  have hK2 := hK1.below hb2
  have hbx2 := hbx1.below hb2
  have hSo2 := ((hSo.below hbV).below hb1).below hb2
  have hSz2 := ((hSz.below hbV).below hb1).below hb2
  clear d0 d1 d2 HOK HV hbx1 hbx hKV hXl hRl
  obtain ⟨d0, d1, d2⟩ := hbx2.cells
  have hX2 := hK2.box.lt
  have hR2 := hbx2.lt
  have o0 := last.On.cell (B := w2.heap.size) hK2.box.cells.1 hX2
  have o1 := last.On.cell (B := w2.heap.size) hK2.box.cells.2.1 hX2
  have o2 := last.On.cell (B := w2.heap.size) hK2.box.cells.2.2 hX2
  have o3 := last.On.cell (B := w2.heap.size) hbx2.cells.1 hR2
  have o4 := last.On.cell (B := w2.heap.size) hbx2.cells.2.1 hR2
  have o5 := last.On.cell (B := w2.heap.size) hbx2.cells.2.2 hR2
  have hinh2 := last.On.inh w2.heap.size w2
  have hHas : ∀ x9 : last.On w2.heap.size w2, Calls Tryz.prog 83 #[.slice sa s.2.2.length sc, .int .i64 tx] x9.w fun e w' => e = .returned (.bool (decide (tx ∈ s.2.2))) ∧ ∃ y9 : last.On w2.heap.size w2, w' = y9.w := fun x9 => last.Calls.on x9 (Nat.le_refl _) ((spec_l7Has sa s.2.2.length sc s.2.2 tx x9.w (hSz2.below x9.2)).mono (fun e w' h => ⟨h.1, h.2 ▸ Below.refl _ _⟩))
  have hLk : ∀ x9 : last.On w2.heap.size w2, Calls Tryz.prog 125 #[.slice ah s.2.1.length ch, .slice a len cap] x9.w fun e w' => e = .returned (.bool (locked s.2.1 ops)) ∧ ∃ y9 : last.On w2.heap.size w2, w' = y9.w := fun x9 => last.Calls.on x9 (Nat.le_refl _) (spec_locked _ _ ch s.2.1 a len cap ops x9.w (hK2.held.below x9.2).sl (hSo2.below x9.2))
  have hMt : ∀ x9 : last.On w2.heap.size w2, Calls Tryz.prog 126 #[.slice am nm cm, .slice a len cap] x9.w fun e w' => e = .returned (.bool (meets s.1 ops)) ∧ ∃ y9 : last.On w2.heap.size w2, w' = y9.w := fun x9 => last.Calls.on x9 (Nat.le_refl _) (spec_meets _ nm cm s.1 a len cap ops x9.w (hK2.m.below x9.2).sl (hSo2.below x9.2))
  rw [h1] at hHas
  rw [h2] at hLk
  rw [h3] at hMt
  go_wp2_with fail
  refine last.wp_region_on w2.heap.size (by kernel_rfl) (by kernel_rfl) ?_
  repeat (go_big_quiet_step (first | (go_at_call 83; with_reducible exact hHas _) | (go_at_call 125; with_reducible exact hLk _) | (go_at_call 126; with_reducible exact hMt _)))
  refine wpQuiet_nil ?_
  intro w5 hw5
  obtain ⟨x5, hw5⟩ := hw5
  have hb5 : Below w2.heap.size w2 w5 := by rw [hw5]; exact x5.2
  clear hw5 x5 hinh2 o0 o1 o2 o3 o4 o5 hHas hLk hMt d0 d1 d2
  have hK5 := hK2.below hb5
  go_wp2_with fail
  go_ret
  exact ⟨rfl, hK5.fr⟩
end Go.Proofs.YtijplooogplccaaGreat.recs
