/- The program's words that tell shards what was decided. The specification's words that tell of a job. -/
import Derived.Test.YtdeaiefhegjalaaBund13a
import Derived.Test.YtdeaiefhegjalaaBund13b
import Derived.Test.YtdeaiefhegjalaaBund12an
namespace Go.Proofs.Ytdeaiefhegjalaa.cos
open Go Go.RowKit Go.Proofs.Ytdeaiefhegjalaa.base Go.Proofs.Ytdeaiefhegjalaa.pairs Go.Proofs.Ytdeaiefhegjalaa.ords Go.Proofs.Ytdeaiefhegjalaa.lay Go.Proofs.Ytdeaiefhegjalaa.wds
set_option linter.unusedVariables false
set_option linter.unusedSimpArgs false

theorem tellsW_snoc (tx : Int) (y : Bool) (l : List Int) (s : Int) : tellsW tx y (l ++ [s]) = tellsW tx y l ++ [(3, s, tx, [], y)] := by unfold tellsW; rw [List.map_append]; rfl
theorem tellsW_len (tx : Int) (y : Bool) (l : List Int) : (tellsW tx y l).length = l.length := by unfold tellsW; rw [List.length_map]
/-- one more word that tells -/
theorem tell_more {V wr : World} {w : World} {g m cap gs k : Nat} {q : Parts} {s tx : Int} {y : Bool} {sh : List Int} (W0 : Nat) (HO : OwnG 124 wordR wr (.slice (some ⟨g, 0, none⟩) m cap) (tellsW tx y (sh.take k)) q) (hq : ∀ bb ∈ g :: blocksOf q, W0 ≤ bb) (hW0 : w.heap.size ≤ W0) (hggs : g ≠ gs) (hgsl : gs < wr.heap.size) (hBw : Below w.heap.size w wr) (hW1 : W0 ≤ wr.heap.size)
    (hV : wr.alloc (.cells #[.int .i64 3, .int .i64 s, .int .i64 tx, .slice none 0 0, .bool y] 124) = V) (hmk : m ≤ 8) (hsw : (Lit.int .i64 s).wf = true) (htw : (Lit.int .i64 tx).wf = true) (HTK : sh.take (k + 1) = sh.take k ++ [s]) (ty : TypeId) :
    ∃ g' cap' w4 q', (Builtin.append_ #[82, 82] ty #[.slice (some ⟨g, 0, none⟩) m cap, .slice (some ⟨wr.heap.size, 0, none⟩) 1 1]).run Try.prog V = .ok (.slice (some ⟨g', 0, none⟩) (m + 1) cap') w4 ∧ OwnG 124 wordR w4 (.slice (some ⟨g', 0, none⟩) (m + 1) cap') (tellsW tx y (sh.take (k + 1))) q' ∧ (∀ bb ∈ g' :: blocksOf q', W0 ≤ bb) ∧ g' ≠ gs ∧ Below w.heap.size w w4 ∧ (∀ bb, bb < wr.heap.size → bb ≠ g → w4.heap[bb]? = wr.heap[bb]?) ∧ wr.heap.size ≤ w4.heap.size := by
  have hbv : Below wr.heap.size wr V := by rw [← hV]; exact below_make
  have hX : BoxIn wr.heap.size 124 [] [.int .i64 3, .int .i64 s, .int .i64 tx, .slice none 0 0, .bool y] [] V := by rw [← hV]; exact boxIn_new wr _ _
  have HML : (tellsW tx y (sh.take k)).length = m := HO.nlen.symm
  have hOR := HO.below hbv
  have hxw : wordR.own V [.int .i64 3, .int .i64 s, .int .i64 tx, .slice none 0 0, .bool y] (3, s, tx, [], y) [] := word_own.2 ⟨_, rfl, by show (Lit.int .i64 3).wf = true; decide, hsw, htw, ops_own.2 ⟨ownV_nil _ _, rfl⟩⟩
  obtain ⟨g', cap', w4, hrun, hO4, hgr, hat4⟩ := OwnG.appRun (P := Try.prog) (z := .agg #[.int .i64 0, .int .i64 0, .int .i64 0, .slice none 0 0, .bool false]) Try.underlying82 infoW rfl (by decide) hOR hxw (fun b hb => absurd hb List.not_mem_nil) hX (by rw [HML]; unfold maxLen; omega) (by rw [HML]; omega) ty
  rw [HML] at hrun hO4
  have hqg := hq g (by simp)
  have hge : ∀ bb, (Value.slice (some ⟨g, 0, none⟩) m cap).ownBlock = some bb → g = bb := fun bb e => by simpa [Value.ownBlock] using e
  have hBwV := hBw.trans (hbv.mono hBw.size)
  have hs4 := hbv.size
  have hs5 := hgr.size
  refine ⟨g', cap', w4, _, hrun, by rw [HTK, tellsW_snoc]; exact hO4, fun bb hb => ?_, ?_, hBwV.grown hgr hBwV.size (fun bb e => by have := hge bb e; omega), fun bb h1 h2 => (hgr.block bb (Nat.lt_of_lt_of_le h1 hbv.size) (fun e => h2 (hge bb e.symm).symm)).trans (hbv.block bb h1), by omega⟩
  · rw [blocksOf_append] at hb
    rcases List.mem_cons.1 hb with e | e
    · rcases hat4 with e2 | e2
      · have : g = g' := by simpa [Value.ownBlock] using e2
        omega
      · omega
    · rcases List.mem_append.1 e with e | e
      · exact hq bb (List.mem_cons_of_mem _ e)
      · exact absurd e (by simp [blocksOf])
  · rcases hat4 with e2 | e2
    · have : g = g' := by simpa [Value.ownBlock] using e2
      omega
    · omega
end Go.Proofs.Ytdeaiefhegjalaa.cos

namespace Go.Proofs.Ytdeaiefhegjalaa.cos
open Go Go.RowKit Go.Proofs.Ytdeaiefhegjalaa.base Go.Proofs.Ytdeaiefhegjalaa.pairs Go.Proofs.Ytdeaiefhegjalaa.ords Go.Proofs.Ytdeaiefhegjalaa.lay Go.Proofs.Ytdeaiefhegjalaa.wds
set_option linter.unusedVariables false
set_option linter.unusedSimpArgs false

/-- the words of one job -/
def jobW (n life sure : Int) (log : List Ch) (j : Jb) : List Wd := if j.2.2.1 = 1 then holdsW n j.1 j.2.1 j.2.2.2 (shardsOf n j.2.1) else if (answerS life sure log j.1).2 = true then tellsW j.1 (answerS life sure log j.1).1 (shardsOf n j.2.1) else []
end Go.Proofs.Ytdeaiefhegjalaa.cos
