/- append within the room that a make laid: small facts on worlds; no function of the program is named here. -/
import Derived.Test.YtjodbijcgcjndaaApp
import Derived.OwnWalk
namespace Go.Proofs.Ytjodbijcgcjndaa.base
open Go.RowKit
set_option linter.unusedVariables false
set_option linter.unusedSimpArgs false

theorem step_append_fits {P : Program} {ops : Array Oper} {o : Oper} {a : Act} {w : World} {K : Act → World → Prop} {Q : Exit → Act → World → Prop} {E : Prop} (hgd : o.guard = none) (s x : Operand) (t : TypeId)
    (hop : o.op = .call { callee := .builtin .append, args := #[s, x], argTypes := #[t, t] })
    (base : Nat) (e : TypeId) (i : TypeInfo) (size : Nat) (h1 : P.underlying t = some (.slice e)) (h2 : P.info? e = some i) (h4 : i.size = size)
    (g k cap : Nat) (xs : List Value) (hs : a.eval s = .slice (some ⟨g, 0, none⟩) k cap) (hown : w.ownsRow base e size (.slice (some ⟨g, 0, none⟩) k cap) k xs) (ad : Addr) (m c : Nat) (news : List Value) (hx : a.eval x = .slice (some ad) m c) (hn : news.length = m * size)
    (hc : ∀ j u, news[j]? = some u → w.cell? (ad.add j) = some u) (h1c : ∀ u ∈ news, u.oneCell' = true) (b1 : k + m ≤ cap)
    (hK : ∀ w', w'.ownsRow base e size (.slice (some ⟨g, 0, none⟩) (k + m) cap) (k + m) (xs ++ news) → w.grownBy w' (some g) → K (a.put o.dst (.slice (some ⟨g, 0, none⟩) (k + m) cap)) w') :
    if Region.wanted o (yielded ops a.tmps) = true then Oper.wp P o a w K Q else E := by
  have hw : Region.wanted o (yielded ops a.tmps) = true := by simp [Region.wanted, hgd]
  rw [if_pos hw]
  obtain ⟨w', hrun, r1, r2⟩ := run_append_fits (P := P) w base t o.type e i size h1 h2 h4 g k cap xs hown ad m c news hn hc h1c b1
  unfold Oper.wp
  simp [execOp, hop, resolve, invoke, builtin, hs, hx, hrun, Result.andThen]
  exact hK w' r1 r2
theorem own_fits {w' : World} {base g n m cap : Nat} {bs ns : List UInt8} {news : List Value} (hl : bs.length = n) (hln : ns.length = m) (he : news = byteVals ns)
    (h : w'.ownsRow base 5 1 (.slice (some ⟨g, 0, none⟩) (n + m) cap) (n + m) (byteVals bs ++ news)) : Own w' base g (n + m) cap (bs ++ ns) := by
  subst he
  rw [← byteVals_append] at h
  exact ⟨by simp; omega, h⟩
theorem made_own {w w' : World} {base g cap : Nat} (h : w'.ownsRow base 5 1 (.slice (some ⟨g, 0, none⟩) 0 cap) 0 []) : Own w' base g 0 cap [] := ⟨rfl, h⟩
/-- the bytes of a string that was turned into bytes -/
def Bts (w : World) (g : Nat) (s : ByteArray) : Prop := g < w.heap.size ∧ ∀ j (h : j < s.size), w.cell? ⟨g, j, none⟩ = some (.int .u8 (s[j].toNat : Int))
theorem bts_new (w : World) (s : ByteArray) : Bts (Lib.bytesWorld w 5 s) w.heap.size s := by
  refine ⟨by rw [Lib.bytesWorld_size]; omega, fun j h => ?_⟩
  rw [Lib.bytesWorld_cell w 5 s j h]; simp [List.getD, h]; rfl
theorem Bts.grown {w w' : World} {g g2 : Nat} {s : ByteArray} (h : Bts w g s) (hg : w.grownBy w' (some g2)) (hne : g ≠ g2) : Bts w' g s :=
  ⟨Nat.lt_of_lt_of_le h.1 hg.size, fun j hj => hg.cell (h.2 j hj) (by simpa using hne)⟩
theorem Bts.below {w w' : World} {g : Nat} {s : ByteArray} (h : Bts w g s) (hb : Below w.heap.size w w') : Bts w' g s :=
  ⟨Nat.lt_of_lt_of_le h.1 hb.size, fun j hj => (hb.cell (p := ⟨g, j, none⟩) h.1).trans (h.2 j hj)⟩

end Go.Proofs.Ytjodbijcgcjndaa.base
