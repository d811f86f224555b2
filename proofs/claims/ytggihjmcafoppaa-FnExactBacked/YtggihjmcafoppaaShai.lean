/- How orders and worlds lie in memory. No function of the program is named here. The specification's replay: one record more. The specification's replay: one record more, that is not held. The specification's replay: one record more, that is held. The specification's replay: a record of a transaction that is not held. Rows of records: one taken out. The specification's replay: a transaction that is held is let go. The specification's replay: a transaction that is held is done. The specification's replay: one record more, whatever it is; and all of them. The specification's ReplayRecs. The specification's shard: what is alike, and whether it is right. A struct in a block, whole or in the midst of it (LayB0), and how records and shards lie. The laws' helpers for one record: its size, alike, marked, held. The laws' helpers for records: alike, marked, held. A block of three cells: small facts on worlds; no function of the program is named here. Rows of pairs that a law made, kept from step to step; arguments that are pairs, opened. An argument that is a slice of orders, opened. The laws' helpers for records that are handed in: copied; and the arguments, opened. -/
import Derived.Test.YtggihjmcafoppaaShaf
import Derived.Test.YtggihjmcafoppaaShah
import Derived.Test.YtggihjmcafoppaaShad
import Derived.Test.YtggihjmcafoppaaShae
import Derived.Test.YtggihjmcafoppaaShag
import Derived.Test.YtggihjmcafoppaaShab
import Derived.Test.YtggihjmcafoppaaShac
import Derived.Deep.SlicePairs
import Derived.ChangeArms
namespace Go.Proofs.Ytggihjmcafoppaa.wos
open Go Go.RowKit Go.Proofs.Ytggihjmcafoppaa.base Go.Proofs.Ytggihjmcafoppaa.pairs Go.Proofs.Ytggihjmcafoppaa.ords Go.Proofs.Ytggihjmcafoppaa.lay
set_option linter.unusedVariables false
set_option linter.unusedSimpArgs false

abbrev Orr := Int × List Od
abbrev Wo := cos.Co × List recs.Shd × List wds.Wd × List wds.Wd × List Orr
def ordR : Rd Orr := both int cos.opsR
def ordsR : Rd (List Orr) := slice 80 ordR
def shsR : Rd (List recs.Shd) := slice 53 shardR
def worldR : Rd Wo := both cos.coordR (both shsR (both cos.wordsR (both cos.wordsR ordsR)))
section
variable {w w' : World} {F : List Nat} {vs : List Value}
theorem ord_see {x : Orr} : ordR.see w vs x ↔ ∃ oa ol oc, vs = [.int .i64 x.1, .slice oa ol oc] ∧ (Lit.int .i64 x.1).wf = true ∧ SlO w oa ol x.2 ∧ ol ≤ oc := by
  constructor
  · rintro ⟨u1, t1, rfl, h1, h2⟩
    obtain ⟨rfl, k1⟩ := cos.flat_int.see.1 h1
    obtain ⟨oa, ol, oc, rfl, _⟩ := id h2
    have h6 := cos.ops_see.1 h2
    exact ⟨oa, ol, oc, rfl, k1, h6.1, h6.2⟩
  · rintro ⟨oa, ol, oc, rfl, k1, h4, h5⟩
    exact ⟨[_], [_], rfl, cos.flat_int.see.2 ⟨rfl, k1⟩, cos.ops_see.2 ⟨h4, h5⟩⟩
theorem ord_own {x : Orr} : ordR.own w vs x F ↔ ∃ v, vs = [.int .i64 x.1, v] ∧ (Lit.int .i64 x.1).wf = true ∧ cos.opsR.own w [v] x.2 F := by
  constructor
  · rintro ⟨u1, t1, F1, G1, rfl, rfl, h1, h2, _⟩
    obtain ⟨rfl, k1, rfl⟩ := cos.flat_int.own.1 h1
    obtain ⟨v, q, rfl, _⟩ := id h2
    exact ⟨v, rfl, k1, by simpa using h2⟩
  · rintro ⟨v, rfl, k1, h4⟩
    exact ⟨[_], [v], [], F, rfl, rfl, cos.flat_int.own.2 ⟨rfl, k1, rfl⟩, h4, cos.opsR.ownNodup h4⟩
theorem ord_at {b off len : Nat} {l : List Orr} (h : SlG ordR w (some ⟨b, off, none⟩) len l) (i : Nat) (hi : i < l.length) : w.cell? ⟨b, off + i * 2, none⟩ = some (.int .i64 l[i].1) ∧ ∃ oa ol oc, w.cell? ⟨b, off + i * 2 + 1, none⟩ = some (.slice oa ol oc) ∧ SlO w oa ol l[i].2 ∧ ol ≤ oc := by
  obtain ⟨b', off', e, hc⟩ := h.2.2.2 (by have := h.1; omega)
  simp only [Option.some.injEq, Addr.mk.injEq, and_true] at e
  obtain ⟨rfl, rfl⟩ := e
  obtain ⟨vs, hs, hcl⟩ := hc i hi
  obtain ⟨oa, ol, oc, rfl, k1, h5⟩ := ord_see.1 hs
  exact ⟨hcl 0 _ rfl, oa, ol, oc, hcl 1 _ rfl, h5⟩
theorem shard_at {b off len : Nat} {l : List recs.Shd} (h : SlG shardR w (some ⟨b, off, none⟩) len l) (i : Nat) (hi : i < l.length) : ∃ la ln lc ma mn mc ha hn hc, w.cell? ⟨b, off + i * 5, none⟩ = some (.int .i64 l[i].1) ∧ w.cell? ⟨b, off + i * 5 + 1, none⟩ = some (.slice la ln lc) ∧ w.cell? ⟨b, off + i * 5 + 2, none⟩ = some (.int .i64 l[i].2.2.1) ∧ w.cell? ⟨b, off + i * 5 + 3, none⟩ = some (.slice ma mn mc) ∧ w.cell? ⟨b, off + i * 5 + 4, none⟩ = some (.slice ha hn hc) ∧ SeeSh w la ln lc ma mn mc ha hn hc l[i] := by
  obtain ⟨b', off', e, hc⟩ := h.2.2.2 (by have := h.1; omega)
  simp only [Option.some.injEq, Addr.mk.injEq, and_true] at e
  obtain ⟨rfl, rfl⟩ := e
  obtain ⟨vs, hs, hcl⟩ := hc i hi
  obtain ⟨la, ln, lc, ma, mn, mc, ha, hn, hc, rfl, h5⟩ := shard_see.1 hs
  exact ⟨la, ln, lc, ma, mn, mc, ha, hn, hc, hcl 0 _ rfl, hcl 1 _ rfl, hcl 2 _ rfl, hcl 3 _ rfl, hcl 4 _ rfl, h5⟩
theorem word_at {b off len : Nat} {l : List wds.Wd} (h : SlG cos.wordR w (some ⟨b, off, none⟩) len l) (i : Nat) (hi : i < l.length) : ∃ oa ol oc, w.cell? ⟨b, off + i * 5, none⟩ = some (.int .i64 l[i].1) ∧ w.cell? ⟨b, off + i * 5 + 1, none⟩ = some (.int .i64 l[i].2.1) ∧ w.cell? ⟨b, off + i * 5 + 2, none⟩ = some (.int .i64 l[i].2.2.1) ∧ w.cell? ⟨b, off + i * 5 + 3, none⟩ = some (.slice oa ol oc) ∧ w.cell? ⟨b, off + i * 5 + 4, none⟩ = some (.bool l[i].2.2.2.2) ∧ SlO w oa ol l[i].2.2.2.1 ∧ ol ≤ oc ∧ (Lit.int .i64 l[i].1).wf = true ∧ (Lit.int .i64 l[i].2.1).wf = true ∧ (Lit.int .i64 l[i].2.2.1).wf = true := by
  obtain ⟨b', off', e, hc⟩ := h.2.2.2 (by have := h.1; omega)
  simp only [Option.some.injEq, Addr.mk.injEq, and_true] at e
  obtain ⟨rfl, rfl⟩ := e
  obtain ⟨vs, hs, hcl⟩ := hc i hi
  obtain ⟨oa, ol, oc, rfl, k1, k2, k3, h5⟩ := cos.word_see.1 hs
  exact ⟨oa, ol, oc, hcl 0 _ rfl, hcl 1 _ rfl, hcl 2 _ rfl, hcl 3 _ rfl, hcl 4 _ rfl, h5.1, h5.2, k1, k2, k3⟩
structure SeeWo (w : World) (ja : Option Addr) (jn jc : Nat) (la : Option Addr) (ln lc : Nat) (sa : Option Addr) (sn sc : Nat) (na : Option Addr) (nn nc : Nat) (oa : Option Addr) (on oc : Nat) (ba : Option Addr) (bn bc : Nat) (x : Wo) : Prop where
  co : cos.SeeCo w ja jn jc la ln lc x.1
  sh : SlG shardR w sa sn x.2.1
  net : SlG cos.wordR w na nn x.2.2.1
  outs : SlG cos.wordR w oa on x.2.2.2.1
  begun : SlG ordR w ba bn x.2.2.2.2
  shc : sn ≤ sc
  netc : nn ≤ nc
  outc : on ≤ oc
  begc : bn ≤ bc
theorem SeeWo.below {ja : Option Addr} {jn jc : Nat} {la : Option Addr} {ln lc : Nat} {sa : Option Addr} {sn sc : Nat} {na : Option Addr} {nn nc : Nat} {oa : Option Addr} {on oc : Nat} {ba : Option Addr} {bn bc : Nat} {x : Wo} (h : SeeWo w ja jn jc la ln lc sa sn sc na nn nc oa on oc ba bn bc x) (hb : Below w.heap.size w w') : SeeWo w' ja jn jc la ln lc sa sn sc na nn nc oa on oc ba bn bc x := ⟨h.co.below hb, h.sh.below hb, h.net.below hb, h.outs.below hb, h.begun.below hb, h.shc, h.netc, h.outc, h.begc⟩
theorem world_see {x : Wo} : worldR.see w vs x ↔ ∃ ja jn jc la ln lc sa sn sc na nn nc oa on oc ba bn bc, vs = [.int .i64 x.1.1, .int .i64 x.1.2.1, .int .i64 x.1.2.2.1, .slice ja jn jc, .slice la ln lc, .int .i64 x.1.2.2.2.2.2, .slice sa sn sc, .slice na nn nc, .slice oa on oc, .slice ba bn bc] ∧ SeeWo w ja jn jc la ln lc sa sn sc na nn nc oa on oc ba bn bc x := by
  constructor
  · rintro ⟨u1, t1, rfl, h1, u2, t2, rfl, h2, u3, t3, rfl, h3, u4, t4, rfl, h4, h5⟩
    obtain ⟨ja, jn, jc, la, ln, lc, rfl, k1⟩ := cos.coord_see.1 h1
    obtain ⟨sa, sn, sc, rfl, s1, s2⟩ := h2
    obtain ⟨na, nn, nc, rfl, n1, n2⟩ := h3
    obtain ⟨oa, on, oc, rfl, o1, o2⟩ := h4
    obtain ⟨ba, bn, bc, rfl, b1, b2⟩ := h5
    exact ⟨ja, jn, jc, la, ln, lc, sa, sn, sc, na, nn, nc, oa, on, oc, ba, bn, bc, rfl, k1, s2, n2, o2, b2, s1, n1, o1, b1⟩
  · rintro ⟨ja, jn, jc, la, ln, lc, sa, sn, sc, na, nn, nc, oa, on, oc, ba, bn, bc, rfl, h⟩
    exact ⟨cos.coVals x.1.1 x.1.2.1 x.1.2.2.1 x.1.2.2.2.2.2 ja jn jc la ln lc, [_, _, _, _], rfl, cos.coord_see.2 ⟨_, _, _, _, _, _, rfl, h.co⟩, [_], [_, _, _], rfl, ⟨_, _, _, rfl, h.shc, h.sh⟩, [_], [_, _], rfl, ⟨_, _, _, rfl, h.netc, h.net⟩, [_], [_], rfl, ⟨_, _, _, rfl, h.outc, h.outs⟩, ⟨_, _, _, rfl, h.begc, h.begun⟩⟩
theorem see_wo {x : Wo} {ja : Option Addr} {jn jc : Nat} {la : Option Addr} {ln lc : Nat} {sa : Option Addr} {sn sc : Nat} {na : Option Addr} {nn nc : Nat} {oa : Option Addr} {on oc : Nat} {ba : Option Addr} {bn bc : Nat} (h : worldR.see w [.int .i64 x.1.1, .int .i64 x.1.2.1, .int .i64 x.1.2.2.1, .slice ja jn jc, .slice la ln lc, .int .i64 x.1.2.2.2.2.2, .slice sa sn sc, .slice na nn nc, .slice oa on oc, .slice ba bn bc] x) : SeeWo w ja jn jc la ln lc sa sn sc na nn nc oa on oc ba bn bc x := by
  obtain ⟨ja', jn', jc', la', ln', lc', sa', sn', sc', na', nn', nc', oa', on', oc', ba', bn', bc', e, h⟩ := world_see.1 h
  simp only [List.cons.injEq, Value.slice.injEq, and_true, true_and] at e
  obtain ⟨⟨rfl, rfl, rfl⟩, ⟨rfl, rfl, rfl⟩, ⟨rfl, rfl, rfl⟩, ⟨rfl, rfl, rfl⟩, ⟨rfl, rfl, rfl⟩, ⟨rfl, rfl, rfl⟩⟩ := e
  exact h
theorem world_see10 {x : Wo} {u0 u1 u2 u3 u4 u5 u6 u7 u8 u9 : Value} (h : worldR.see w [u0, u1, u2, u3, u4, u5, u6, u7, u8, u9] x) : ∃ ja jn jc la ln lc sa sn sc na nn nc oa on oc ba bn bc, u0 = .int .i64 x.1.1 ∧ u1 = .int .i64 x.1.2.1 ∧ u2 = .int .i64 x.1.2.2.1 ∧ u3 = .slice ja jn jc ∧ u4 = .slice la ln lc ∧ u5 = .int .i64 x.1.2.2.2.2.2 ∧ u6 = .slice sa sn sc ∧ u7 = .slice na nn nc ∧ u8 = .slice oa on oc ∧ u9 = .slice ba bn bc ∧ SeeWo w ja jn jc la ln lc sa sn sc na nn nc oa on oc ba bn bc x := by
  obtain ⟨ja, jn, jc, la, ln, lc, sa, sn, sc, na, nn, nc, oa, on, oc, ba, bn, bc, e, h⟩ := world_see.1 h
  simp only [List.cons.injEq, and_true] at e
  obtain ⟨e0, e1, e2, e3, e4, e5, e6, e7, e8, e9⟩ := e
  exact ⟨ja, jn, jc, la, ln, lc, sa, sn, sc, na, nn, nc, oa, on, oc, ba, bn, bc, e0, e1, e2, e3, e4, e5, e6, e7, e8, e9, h⟩
theorem world_own {x : Wo} : worldR.own w vs x F ↔ ∃ us v1 v2 v3 v4 F0 F1 F2 F3 F4, vs = us ++ [v1, v2, v3, v4] ∧ F = F0 ++ (F1 ++ (F2 ++ (F3 ++ F4))) ∧ cos.coordR.own w us x.1 F0 ∧ shsR.own w [v1] x.2.1 F1 ∧ cos.wordsR.own w [v2] x.2.2.1 F2 ∧ cos.wordsR.own w [v3] x.2.2.2.1 F3 ∧ ordsR.own w [v4] x.2.2.2.2 F4 ∧ F.Nodup := by
  constructor
  · rintro ⟨u1, t1, F0, G0, rfl, rfl, h1, ⟨u2, t2, F1, G1, rfl, rfl, h2, ⟨u3, t3, F2, G2, rfl, rfl, h3, ⟨u4, t4, F3, F4, rfl, rfl, h4, h5, _⟩, _⟩, _⟩, hn⟩
    obtain ⟨v1, q1, rfl, _⟩ := id h2
    obtain ⟨v2, q2, rfl, _⟩ := id h3
    obtain ⟨v3, q3, rfl, _⟩ := id h4
    obtain ⟨v4, q4, rfl, _⟩ := id h5
    exact ⟨u1, v1, v2, v3, v4, F0, F1, F2, F3, F4, rfl, rfl, h1, h2, h3, h4, h5, hn⟩
  · rintro ⟨us, v1, v2, v3, v4, F0, F1, F2, F3, F4, rfl, rfl, h1, h2, h3, h4, h5, hn⟩
    have n1 := (nodup_parts hn).2.1
    have n2 := (nodup_parts n1).2.1
    have n3 := (nodup_parts n2).2.1
    exact ⟨us, [v1, v2, v3, v4], F0, _, rfl, rfl, h1, ⟨[v1], [v2, v3, v4], F1, _, rfl, rfl, h2, ⟨[v2], [v3, v4], F2, _, rfl, rfl, h3, ⟨[v3], [v4], F3, F4, rfl, rfl, h4, h5, n3⟩, n2⟩, n1⟩, hn⟩
theorem world_shape {x : Wo} (h : worldR.own w vs x F) : ∃ ja jn jc la ln lc sa sn sc na nn nc oa on oc ba bn bc, vs = [.int .i64 x.1.1, .int .i64 x.1.2.1, .int .i64 x.1.2.2.1, .slice ja jn jc, .slice la ln lc, .int .i64 x.1.2.2.2.2.2, .slice sa sn sc, .slice na nn nc, .slice oa on oc, .slice ba bn bc] := by
  obtain ⟨ja, jn, jc, la, ln, lc, sa, sn, sc, na, nn, nc, oa, on, oc, ba, bn, bc, e, _⟩ := world_see.1 (worldR.ownSee h)
  exact ⟨ja, jn, jc, la, ln, lc, sa, sn, sc, na, nn, nc, oa, on, oc, ba, bn, bc, e⟩
end
end Go.Proofs.Ytggihjmcafoppaa.wos

namespace Go.Proofs.Ytggihjmcafoppaa.recs
open Go Go.RowKit Go.Proofs.Ytggihjmcafoppaa.base Go.Proofs.Ytggihjmcafoppaa.pairs Go.Proofs.Ytggihjmcafoppaa.ords
set_option linter.unusedVariables false
set_option linter.unusedSimpArgs false

def OnePost (N : Prop) (w0 : World) (F0 : List Nat) (X : Nat) (r : Option St) (e : Ending) (w' : World) : Prop :=
  match r with
  | none => e = .returned (.bool false) ∧ lay.Frame (X :: F0) w0 w'
  | some t => e = .returned (.bool true) ∧ ∃ am nm cm ah ch vs hs, Kept N w0 F0 w' X am nm cm ah ch vs t hs

def OverPost (N : Prop) (w0 : World) (F0 : List Nat) (X : Nat) (t : St) (e : Ending) (w' : World) : Prop := e = .returned (.bool false) ∧ ∃ am nm cm ah ch vs hs, Kept N w0 F0 w' X am nm cm ah ch vs t hs
theorem OverPost.none {N : Prop} {w0 w' : World} {F0 : List Nat} {X : Nat} {t : St} {e : Ending} (h : OverPost N w0 F0 X t e w') : OnePost N w0 F0 X none e w' := by
  obtain ⟨h1, _, _, _, _, _, _, _, hK⟩ := h
  exact ⟨h1, hK.fr⟩
end Go.Proofs.Ytggihjmcafoppaa.recs

namespace Go.Proofs.Ytggihjmcafoppaa.recs
open Go Go.RowKit Go.Proofs.Ytggihjmcafoppaa.base Go.Proofs.Ytggihjmcafoppaa.pairs Go.Proofs.Ytggihjmcafoppaa.ords
set_option linter.unusedVariables false
set_option linter.unusedSimpArgs false

end Go.Proofs.Ytggihjmcafoppaa.recs

namespace Go.Proofs.Ytggihjmcafoppaa.stepc
open Go Go.RowKit
end Go.Proofs.Ytggihjmcafoppaa.stepc
namespace Go.Proofs.Ytggihjmcafoppaa.recs
open Go Go.RowKit Go.Proofs.Ytggihjmcafoppaa.base Go.Proofs.Ytggihjmcafoppaa.pairs Go.Proofs.Ytggihjmcafoppaa.ords
set_option linter.unusedVariables false
set_option linter.unusedSimpArgs false
end Go.Proofs.Ytggihjmcafoppaa.recs

namespace Go.Proofs.Ytggihjmcafoppaa.recs
open Go Go.RowKit Go.Proofs.Ytggihjmcafoppaa.base Go.Proofs.Ytggihjmcafoppaa.pairs Go.Proofs.Ytggihjmcafoppaa.ords
set_option linter.unusedVariables false
set_option linter.unusedSimpArgs false
end Go.Proofs.Ytggihjmcafoppaa.recs

namespace Go.Proofs.Ytggihjmcafoppaa.recs
open Go Go.RowKit Go.Proofs.Ytggihjmcafoppaa.base Go.Proofs.Ytggihjmcafoppaa.pairs Go.Proofs.Ytggihjmcafoppaa.ords
set_option linter.unusedVariables false
set_option linter.unusedSimpArgs false

end Go.Proofs.Ytggihjmcafoppaa.recs

namespace Go.Proofs.Ytggihjmcafoppaa.recs
open Go Go.RowKit Go.Proofs.Ytggihjmcafoppaa.base Go.Proofs.Ytggihjmcafoppaa.pairs Go.Proofs.Ytggihjmcafoppaa.ords
set_option linter.unusedVariables false
set_option linter.unusedSimpArgs false
end Go.Proofs.Ytggihjmcafoppaa.recs

namespace Go.Proofs.Ytggihjmcafoppaa.stepc
open Go Go.RowKit
end Go.Proofs.Ytggihjmcafoppaa.stepc
namespace Go.Proofs.Ytggihjmcafoppaa.recs
open Go Go.RowKit Go.Proofs.Ytggihjmcafoppaa.base Go.Proofs.Ytggihjmcafoppaa.pairs Go.Proofs.Ytggihjmcafoppaa.ords
set_option linter.unusedVariables false
set_option linter.unusedSimpArgs false
end Go.Proofs.Ytggihjmcafoppaa.recs

namespace Go.Proofs.Ytggihjmcafoppaa.recs
open Go Go.RowKit Go.Proofs.Ytggihjmcafoppaa.base Go.Proofs.Ytggihjmcafoppaa.pairs Go.Proofs.Ytggihjmcafoppaa.ords
set_option linter.unusedVariables false
set_option linter.unusedSimpArgs false

structure Tame (k : Nat) (s : St) : Prop where
  few : s.1.length ≤ 60
  held : s.2.1.length ≤ k
  seen : s.2.2.length ≤ k
  ok : ∀ r ∈ s.2.1, recOk r = true
theorem Tame.step {k : Nat} {s t : St} {r : Rc} (h : Tame k s) (ho : one s r = some t) : Tame (k + 1) t := by
  unfold one at ho
  split at ho
  · next hok =>
    split at ho
    · split at ho
      · cases ho
      · cases ho
        refine ⟨h.few, by have := h.held; simp; omega, by have := h.seen; simp; omega, fun x hx => ?_⟩
        rcases List.mem_append.1 hx with h1 | h1
        · exact h.ok x h1
        · rw [List.mem_singleton.1 h1]; exact hok
    · split at ho
      · split at ho
        · cases ho
          exact ⟨h.few, by have := h.held; simp; omega, by have := h.seen; simp; omega, h.ok⟩
        · cases ho
      · split at ho
        · next h60 =>
          cases ho
          refine ⟨h60, by have := h.held; simp; omega, by have := h.seen; simp; omega, fun x hx => ?_⟩
          rcases List.mem_append.1 hx with h1 | h1
          · exact h.ok x (List.mem_of_mem_take h1)
          · exact h.ok x (List.mem_of_mem_drop h1)
        · cases ho
  · cases ho
end Go.Proofs.Ytggihjmcafoppaa.recs

namespace Go.Proofs.Ytggihjmcafoppaa.recs
open Go Go.RowKit Go.Proofs.Ytggihjmcafoppaa.base Go.Proofs.Ytggihjmcafoppaa.pairs Go.Proofs.Ytggihjmcafoppaa.ords
set_option linter.unusedVariables false
set_option linter.unusedSimpArgs false

end Go.Proofs.Ytggihjmcafoppaa.recs

namespace Go.Proofs.Ytggihjmcafoppaa.recs
open Go Go.RowKit Go.Proofs.Ytggihjmcafoppaa.base Go.Proofs.Ytggihjmcafoppaa.pairs Go.Proofs.Ytggihjmcafoppaa.ords Go.Proofs.Ytggihjmcafoppaa.helps Go.Proofs.Ytggihjmcafoppaa.help
set_option linter.unusedVariables false
set_option linter.unusedSimpArgs false

end Go.Proofs.Ytggihjmcafoppaa.recs


namespace Go.Proofs.Ytggihjmcafoppaa.recs
open Go Go.RowKit Go.Proofs.Ytggihjmcafoppaa.base Go.Proofs.Ytggihjmcafoppaa.pairs Go.Proofs.Ytggihjmcafoppaa.ords Go.Proofs.Ytggihjmcafoppaa.helps
set_option linter.unusedVariables false
set_option linter.unusedSimpArgs false

set_option maxRecDepth 100000 in
set_option maxHeartbeats 1000000 in
theorem szRec (kind tx : Int) (a : Option Addr) (len cap : Nat) (l : List Od) (L : Nat) (w : World) (h : SlO w a len l) (hL : L ≤ 1099511627776) :
    Calls Try.prog 116 #[.agg #[.int .i64 kind, .int .i64 tx, .slice a len cap], .int .i64 (L : Int)] w fun e w' => e = .returned (.int .i64 (pairs.szR L (l.length + sumO l))) ∧ Below w.heap.size w w' := by
  have hba : Below w.heap.size w (w.alloc (.cells #[.int .i64 kind, .int .i64 tx, .slice a len cap] 162)) := (Below.refl _ _).alloc (Nat.le_refl _) _
  have HS := Hid.mk' (szOpS a len cap l L _ (h.below hba) hL)
  by_cases hc : l.length + sumO l ≤ L
  · rw [pairs.szR_pos hc] at HS ⊢
    have hn : ¬ (L : Int) - ((l.length + sumO l : Nat) : Int) < 0 := by omega
    generalize (L : Int) - ((l.length + sumO l : Nat) : Int) = S at *
    go_enter Try.func116, Try.ntmps116
    go_wp2_with fail
    refine HS.out.mono ?_
    rintro e w1 ⟨rfl, hb1⟩
    go_wp2_with fail
    go_ret
    exact ⟨rfl, hba.trans (hb1.mono hba.size)⟩
  · rw [pairs.szR_neg (by omega)] at HS ⊢
    go_enter Try.func116, Try.ntmps116
    go_wp2_with fail
    refine HS.out.mono ?_
    rintro e w1 ⟨rfl, hb1⟩
    go_wp2_with fail
    go_ret
    exact ⟨rfl, hba.trans (hb1.mono hba.size)⟩

set_option maxRecDepth 100000 in
set_option maxHeartbeats 1000000 in
theorem eqRecT (kind tx : Int) (pa qa : Option Addr) (pl pc ql qc : Nat) (l : List Od) (w : World) (hx : SlO w pa pl l) (hy : SlO w qa ql l) :
    Calls Try.prog 112 #[.agg #[.int .i64 kind, .int .i64 tx, .slice pa pl pc], .agg #[.int .i64 kind, .int .i64 tx, .slice qa ql qc]] w fun e w' => e = .returned (.bool true) ∧ Below w.heap.size w w' := by
  obtain ⟨W, hW⟩ : ∃ W, (w.alloc (.cells #[.int .i64 kind, .int .i64 tx, .slice pa pl pc] 69)).alloc (.cells #[.int .i64 kind, .int .i64 tx, .slice qa ql qc] 69) = W := ⟨_, rfl⟩
  have hB : Below w.heap.size w W := by rw [← hW]; exact ((Below.refl _ _).alloc (Nat.le_refl _) _).alloc (by simp) _
  have HE := Hid.mk' (eqO pa qa pl pc ql qc l l W (hx.below hB) (hy.below hB) rfl)
  have HW := Hid.mk' hW
  clear hW
  have hn : (kind == kind) = true := by simp
  have hf : (tx == tx) = true := by simp
  go_enter Try.func112, Try.ntmps112
  go_wp2_with fail
  rw [HW.out]
  refine HE.out.mono ?_
  rintro e w1 ⟨rfl, hb1⟩
  have hB1 := hB.trans (hb1.mono hB.size)
  clear HE HW hb1
  go_wp2_with fail
  go_ret
  exact ⟨rfl, hB1⟩

end Go.Proofs.Ytggihjmcafoppaa.recs

namespace Go.Proofs.Ytggihjmcafoppaa.recs
open Go Go.RowKit Go.Proofs.Ytggihjmcafoppaa.base Go.Proofs.Ytggihjmcafoppaa.pairs Go.Proofs.Ytggihjmcafoppaa.ords Go.Proofs.Ytggihjmcafoppaa.helps
set_option linter.unusedVariables false
set_option linter.unusedSimpArgs false

set_option maxRecDepth 100000 in
set_option maxHeartbeats 2000000 in
theorem eqRecsT (a a2 : Option Addr) (len cap cap2 : Nat) (l : List Rc) (w : World) (h : SlR w a len l) (h2 : SlR w a2 len l) :
    Calls Try.prog 92 #[.slice a len cap, .slice a2 len cap2] w fun e w' => e = .returned (.bool true) ∧ Below w.heap.size w w' := by
  obtain ⟨hl, hm, hsm, hc⟩ := id h
  obtain ⟨_, _, _, hc2⟩ := id h2
  subst hl
  unfold maxLen at hm
  have hb : ((l.length : Int) == (l.length : Int)) = true := by simp
  go_enter Try.func92, Try.ntmps92
  go_wp2_with fail
  go_loopw [5] (fun i wr => ∃ k : Nat, k ≤ l.length ∧ i = .int .i64 k ∧ Below w.heap.size w wr) (fun i _ => l.length - (intOf i).toNat)
  case atStart => exact ⟨0, Nat.zero_le _, rfl, Below.refl _ _⟩
  case round =>
    obtain ⟨k, hk, rfl, hB⟩ := hrel
    by_cases hlt : k < l.length
    · obtain ⟨b, off, ha, hcl⟩ := hc (by omega)
      obtain ⟨b2, off2, ha2, hcl2⟩ := hc2 (by omega)
      subst ha ha2
      have hki : (k : Int) < (l.length : Int) := by omega
      have i1 := h.at k hlt
      have i2 := h2.at k hlt
      have hb1 : b < w.heap.size := World.block_lt_of_cell? w _ i1.1
      have hb2 : b2 < w.heap.size := World.block_lt_of_cell? w _ i2.1
      have hbs := hB.size
      obtain ⟨c1, c2, pa, pl, pc, c3, hS1, _⟩ := i1.below hB
      obtain ⟨c4, c5, qa, ql, qc, c6, hS2, _⟩ := i2.below hB
      have o1 := last.On.cell (B := wr.heap.size) c1 (by omega)
      have o2 := last.On.cell (B := wr.heap.size) c2 (by omega)
      have o3 := last.On.cell (B := wr.heap.size) c3 (by omega)
      have o4 := last.On.cell (B := wr.heap.size) c4 (by omega)
      have o5 := last.On.cell (B := wr.heap.size) c5 (by omega)
      have o6 := last.On.cell (B := wr.heap.size) c6 (by omega)
      have hinh := last.On.inh wr.heap.size wr
      have hcall : ∀ x : last.On wr.heap.size wr, Calls Try.prog 112 #[.agg #[.int .i64 l[k].1, .int .i64 l[k].2.1, .slice pa pl pc], .agg #[.int .i64 l[k].1, .int .i64 l[k].2.1, .slice qa ql qc]] x.w fun e w' => e = .returned (.bool true) ∧ ∃ y : last.On wr.heap.size wr, w' = y.w := fun x => last.Calls.on x (Nat.le_refl _) (eqRecT l[k].1 l[k].2.1 pa qa pl pc ql qc l[k].2.2 x.w (hS1.below x.2) (hS2.below x.2))
      clear hcl hcl2 hc hc2 i1 i2 hsm h h2 hS1 hS2
      generalize l[k] = p at *
      go_wp2_with fail
      refine last.wp_region_on wr.heap.size (by kernel_rfl) (by kernel_rfl) ?_
      repeat (go_big_quiet_step ((go_at_call 112; exact hcall _)))
      refine wpQuiet_nil ?_
      intro w5 hw5
      obtain ⟨x5, hw5⟩ := hw5
      subst hw5
      have hB5 : Below w.heap.size w x5.w := hB.trans (x5.2.mono hB.size)
      go_wp2_with fail
      go_roundw
      case rel => exact ⟨k + 1, by omega, by go_num, hB5⟩
      case measure => simp [intOf]; omega
    · go_wp2_with fail
      go_ret
      exact ⟨rfl, hB⟩

/-! ### marks -/
end Go.Proofs.Ytggihjmcafoppaa.recs

namespace Go.Proofs.Ytggihjmcafoppaa.ords
open Go Go.RowKit Go.Proofs.Ytggihjmcafoppaa.base Go.Proofs.Ytggihjmcafoppaa.pairs
set_option linter.unusedVariables false

def V3 (w : World) (g : Nat) (t : TypeId) (x y z : Value) : Prop := w.heap[g]? = some (.cells #[x, y, z] t (0, 0))
section
variable {w w' : World} {g : Nat} {t : TypeId} {x y z : Value}
theorem V3.c0 (h : V3 w g t x y z) : w.cell? ⟨g, 0, none⟩ = some x := cell_cur h 0 _ rfl
theorem V3.c1 (h : V3 w g t x y z) : w.cell? ⟨g, 1, none⟩ = some y := cell_cur h 1 _ rfl
theorem V3.c2 (h : V3 w g t x y z) : w.cell? ⟨g, 2, none⟩ = some z := cell_cur h 2 _ rfl
theorem V3.lt (h : V3 w g t x y z) : g < w.heap.size := (Array.getElem?_eq_some_iff.1 h).1
theorem V3.below (h : V3 w g t x y z) (hb : Below w.heap.size w w') : V3 w' g t x y z := (hb.block g h.lt).trans h
end
theorem v3_grown {w w' : World} {g : Nat} {t : TypeId} {x y z : Value} {row : Option Nat} (h : V3 w g t x y z) (hg : w.grownBy w' row) (hne : some g ≠ row) : V3 w' g t x y z := (hg.block g h.lt hne).trans h
theorem v3_fz {w : World} {g : Nat} {t : TypeId} {x y z : Value} (h : V3 w g t x y z) (j : Nat) : w.frozen? ⟨g, j, none⟩ = false := by
  unfold V3 at h; simp [World.frozen?, h]
theorem v3_set {w : World} {g : Nat} {t : TypeId} {x y z : Value} (h : V3 w g t x y z) : (∀ u, V3 (w.setCell ⟨g, 0, none⟩ u) g t u y z ∧ w.grownBy (w.setCell ⟨g, 0, none⟩ u) (some g)) ∧ (∀ u, V3 (w.setCell ⟨g, 1, none⟩ u) g t x u z ∧ w.grownBy (w.setCell ⟨g, 1, none⟩ u) (some g)) ∧ (∀ u, V3 (w.setCell ⟨g, 2, none⟩ u) g t x y u ∧ w.grownBy (w.setCell ⟨g, 2, none⟩ u) (some g)) :=
  ⟨fun u => ⟨(set_cur h 0 u).1, (set_cur h 0 u).2⟩, fun u => ⟨(set_cur h 1 u).1, (set_cur h 1 u).2⟩, fun u => ⟨(set_cur h 2 u).1, (set_cur h 2 u).2⟩⟩
theorem v3_all {w : World} {g : Nat} {t : TypeId} {x y z : Value} (h : V3 w g t x y z) (a b c : Value) : V3 (((w.setCell ⟨g, 0, none⟩ a).setCell ⟨g, 1, none⟩ b).setCell ⟨g, 2, none⟩ c) g t a b c ∧ w.grownBy (((w.setCell ⟨g, 0, none⟩ a).setCell ⟨g, 1, none⟩ b).setCell ⟨g, 2, none⟩ c) (some g) := by
  have h1 := (v3_set h).1 a
  have h2 := (v3_set h1.1).2.1 b
  have h3 := (v3_set h2.1).2.2 c
  exact ⟨h3.1, grownBy_trans (grownBy_trans h1.2 h2.2) h3.2⟩
end Go.Proofs.Ytggihjmcafoppaa.ords

namespace Go.Proofs.Ytggihjmcafoppaa.pairs
open Go Go.RowKit Go.Proofs.Ytggihjmcafoppaa.base Go.Proofs.Ytggihjmcafoppaa.helps
set_option linter.unusedVariables false
set_option linter.unusedSimpArgs false

structure TrioP (w0 w : World) (gx lx cx : Nat) (X : List Pr) (gg lg cg : Nat) (G : List Pr) (gw lw cw : Nat) (W : List Pr) : Prop where
  bel : Below w0.heap.size w0 w
  x : OwnP w w0.heap.size gx lx cx X
  g : OwnP w w0.heap.size gg lg cg G
  s : OwnP w w0.heap.size gw lw cw W
  xg : gx ≠ gg
  xs : gx ≠ gw
  gs : gg ≠ gw
section
variable {w0 w w' : World} {gx lx cx gg lg cg gw lw cw : Nat} {X G W : List Pr}
theorem TrioP.below (h : TrioP w0 w gx lx cx X gg lg cg G gw lw cw W) (hb : Below w.heap.size w w') : TrioP w0 w' gx lx cx X gg lg cg G gw lw cw W :=
  ⟨h.bel.trans (hb.mono h.bel.size), h.x.below hb, h.g.below hb, h.s.below hb, h.xg, h.xs, h.gs⟩
end

/-! ### arguments -/
end Go.Proofs.Ytggihjmcafoppaa.pairs

namespace Go.Proofs.Ytggihjmcafoppaa.ords
open Go Go.RowKit Go.Proofs.Ytggihjmcafoppaa.base Go.Proofs.Ytggihjmcafoppaa.pairs
set_option linter.unusedVariables false
set_option linter.unusedSimpArgs false

end Go.Proofs.Ytggihjmcafoppaa.ords

namespace Go.Proofs.Ytggihjmcafoppaa.recs
open Go Go.RowKit Go.Proofs.Ytggihjmcafoppaa.base Go.Proofs.Ytggihjmcafoppaa.pairs Go.Proofs.Ytggihjmcafoppaa.ords Go.Proofs.Ytggihjmcafoppaa.helps
set_option linter.unusedVariables false
set_option linter.unusedSimpArgs false

theorem v3n (w : World) (t : TypeId) (x y z : Value) : V3 (w.alloc (.cells #[x, y, z] t)) w.heap.size t x y z := heap_alloc_new w _
theorem v3a {w : World} {g : Nat} {t : TypeId} {x y z : Value} (h : V3 w g t x y z) (o : Obj) : V3 (w.alloc o) g t x y z := h.below ((Below.refl _ _).alloc (Nat.le_refl _) _)
theorem v3n1 (w : World) (o : Obj) (t : TypeId) (x y z : Value) : V3 ((w.alloc o).alloc (.cells #[x, y, z] t)) (w.heap.size + 1) t x y z := by
  have := v3n (w.alloc o) t x y z
  have e : (w.alloc o).heap.size = w.heap.size + 1 := by simp
  rw [e] at this; exact this
theorem v3n2 (w : World) (o o2 : Obj) (t : TypeId) (x y z : Value) : V3 (((w.alloc o).alloc o2).alloc (.cells #[x, y, z] t)) (w.heap.size + 2) t x y z := by
  have := v3n1 (w.alloc o) o2 t x y z
  have e : (w.alloc o).heap.size = w.heap.size + 1 := by simp
  rw [e] at this; exact this

set_option maxRecDepth 100000 in
set_option maxHeartbeats 2000000 in
theorem toRec (kind tx : Int) (pa : Option Addr) (pl pc : Nat) (l : List Od) (w : World) (h : SlO w pa pl l) (hsz : pl ≤ 1099511627776) :
    Calls Try.prog 120 #[.agg #[.int .i64 kind, .int .i64 tx, .slice pa pl pc]] w fun e w' =>
      ∃ g, e = .returned (.agg #[.int .i64 kind, .int .i64 tx, .slice (some ⟨g, 0, none⟩) pl pl]) ∧ OwnO w' w.heap.size g pl pl l ∧ Below w.heap.size w w' := by
  obtain ⟨W0, hW0⟩ : ∃ W, ((w.alloc (.cells #[.int .i64 kind, .int .i64 tx, .slice pa pl pc] 162)).alloc (.cells #[.int .i64 0, .int .i64 0, .slice none 0 0] 69)).alloc (.cells #[.int .i64 kind, .int .i64 tx, .slice none 0 0] 69) = W := ⟨_, rfl⟩
  have hB : Below w.heap.size w W0 := by rw [← hW0]; exact (((Below.refl _ _).alloc (Nat.le_refl _) _).alloc (by simp) _).alloc (by simp; omega) _
  have v1 : V3 W0 (w.heap.size + 1) 69 (.int .i64 0) (.int .i64 0) (.slice none 0 0) := by
    rw [← hW0]; exact v3a (v3n1 w _ _ _ _ _) _
  have v2 : V3 W0 (w.heap.size + 1 + 1) 69 (.int .i64 kind) (.int .i64 tx) (.slice none 0 0) := by
    rw [← hW0]; exact v3n2 w _ _ _ _ _ _
  have HW := Hid.mk' hW0
  have HT := Hid.mk' (toOpS pa pl pc l W0 (h.below hB) hsz)
  clear hW0
  go_enter Try.func120, Try.ntmps120
  go_wp2_with fail
  rw [HW.out]
  refine HT.out.mono ?_
  rintro e w2 ⟨g, rfl, hO, hb2⟩
  have u1 := v1.below hb2
  have u2 := v2.below hb2
  have hB2 := hB.trans (hb2.mono hB.size)
  have hgl := hO.lt
  have hl2 := v2.lt
  have s2 := (v3_set u2).2.2 (.slice (some ⟨g, 0, none⟩) pl pl)
  have t1 := v3_grown u1 s2.2 (by simp)
  have hO2 := hO.grown s2.2 (by simp; omega)
  have hB3 := hB2.grown s2.2 hB2.size (fun j e => by cases e; omega)
  have z := v3_all t1 (.int .i64 kind) (.int .i64 tx) (.slice (some ⟨g, 0, none⟩) pl pl)
  have HO := Hid.mk' ((hO2.grown z.2 (by simp; omega)).mono (base' := w.heap.size) hB.size)
  have HBz := Hid.mk' (hB3.grown z.2 hB3.size (fun j e => by cases e; omega))
  have z0 := z.1.c0
  have z1 := z.1.c1
  have z2 := z.1.c2
  have m2 := u2.c2
  have q2 := v3_fz u2 2
  have a0 := s2.1.c0
  have a1 := s2.1.c1
  have a2 := s2.1.c2
  have b0 := t1.c0
  have b1 := t1.c1
  have b2 := t1.c2
  have k0 := v3_fz t1 0
  have k1 := v3_fz t1 1
  have k2 := v3_fz t1 2
  clear v1 v2 u1 u2 s2 t1 z hO hO2 hb2 hB hB2 hB3 HW HT
  go_wp2_with fail
  refine bodyPost_ret (v := .agg #[.int .i64 kind, .int .i64 tx, .slice (some ⟨g, 0, none⟩) pl pl]) ?h1 rfl ⟨g, rfl, HO.out, HBz.out⟩
  simp [results, Try.results120, go_sem, z0, z1, z2]

/-! ### arguments -/
end Go.Proofs.Ytggihjmcafoppaa.recs
