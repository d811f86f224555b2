/- The program's deleting of keys: a map counts the keys, and the key is deleted from it. The program's orders: what is met, at which shard, what is done. -/
import Derived.Test.YtdeaiefhegjalaaBund12ax
import Derived.Maps.OwnSet
import Derived.Maps.OwnOps
import Derived.Maps.Views
import Derived.Test.YtdeaiefhegjalaaBund12aw
import Derived.Test.YtdeaiefhegjalaaBund12ak
namespace Go.Proofs.Ytdeaiefhegjalaa.pairs
open Go Go.RowKit Go.Proofs.Ytdeaiefhegjalaa.base
open Go.Maps (Keyed)
open Go.WideMaps (keyOf_string_mk)
set_option linter.unusedVariables false
set_option linter.unusedSimpArgs false

theorem keyLaw : Keyed Try.prog 9 := Maps.string_keyed Try.underlying9
theorem zeroInt (w : World) : (zeroValue 3).run Try.prog w = .ok (.int .i64 0) w := by kernel_rfl

/-! ### how often a key is there -/
def cnt (s : ByteArray) (l : List Pr) : Nat := (l.filter fun p => decide (p.1 = s)).length
theorem cnt_le (s : ByteArray) (l : List Pr) : cnt s l ≤ l.length := List.length_filter_le _ _
theorem cnt_snoc (s : ByteArray) (l : List Pr) (k : Nat) (h : k < l.length) : cnt s (l.take (k + 1)) = cnt s (l.take k) + if s = l[k].1 then 1 else 0 := by
  unfold cnt
  rw [take_snocP l k h, List.filter_append, List.length_append]
  by_cases e : l[k].1 = s
  · simp [List.filter_cons, e]
  · have e' : ¬ s = l[k].1 := fun x => e x.symm
    simp [List.filter_cons, e, e']
theorem cnt_pos (l : List Pr) (k : Nat) (h : k < l.length) : 1 ≤ cnt l[k].1 l := by
  unfold cnt
  exact List.length_pos_of_mem (List.mem_filter.2 ⟨List.getElem_mem h, by simp⟩)
theorem delKey_snoc (key : ByteArray) (l : List Pr) (j : Nat) (h : j < l.length) : delKey key (l.take (j + 1)) = if l[j].1 = key then delKey key (l.take j) else delKey key (l.take j) ++ [l[j]] := by
  have hst := filter_snoc (fun p => decide (p.1 ≠ key)) l j h
  unfold delKey
  rw [hst]
  by_cases e : l[j].1 = key
  · rw [if_pos e]; simp [e]
  · rw [if_neg e]; simp [e]
theorem lit_inj {a b : Int} (h : (DataW.lit (.int .i64 a) : DataW Unit) = .lit (.int .i64 b)) : a = b := by
  cases h; rfl
theorem str_lit_ne {a b : ByteArray} (h : a ≠ b) : (Lit.string a.data.toList) ≠ .string b.data.toList := by
  intro e; apply h; apply bytes_ext; exact Lit.string.inj e

/-- block B is a map that has, at each key, a number -/
def Tally (w : World) (B n : Nat) (f : ByteArray → Nat) : Prop :=
  ∃ D : DataW Unit, w.ownsMap Try.prog 9 (plainElem Try.prog 3) B n D ∧ Maps.IsMap D ∧ ∀ s : ByteArray, D.atKey (.string s.data.toList) (.lit (.int .i64 0)) = .lit (.int .i64 (f s : Int))
theorem tally_made (w : World) : Tally (w.alloc (.map #[] 0)) w.heap.size 0 (fun _ => 0) :=
  ⟨.map [], World.ownsMap_made _ _ _ _, Maps.isMap_empty, fun s => rfl⟩
theorem Tally.below {w w' : World} {B n : Nat} {f : ByteArray → Nat} (h : Tally w B n f) (hb : Below w.heap.size w w') : Tally w' B n f := by
  obtain ⟨D, h1, h2, h3⟩ := h
  exact ⟨D, h1.kept (row := none) ⟨hb.os, hb.tape, hb.output, hb.size, fun k hk _ => hb.block k hk⟩ (by simp), h2, h3⟩
theorem Tally.grown {w w' : World} {B n : Nat} {f : ByteArray → Nat} {row : Option Nat} (h : Tally w B n f) (hg : w.grownBy w' row) (hne : some B ≠ row) : Tally w' B n f := by
  obtain ⟨D, h1, h2, h3⟩ := h
  exact ⟨D, h1.kept hg hne, h2, h3⟩

/-- the element at a key, one more -/
theorem Tally.put {w' : World} {B n : Nat} {f f' : ByteArray → Nat} {D : DataW Unit} {x : ByteArray} (h2 : Maps.IsMap D) (h3 : ∀ s : ByteArray, D.atKey (.string s.data.toList) (.lit (.int .i64 0)) = .lit (.int .i64 (f s : Int))) {v : Int} (hv : v = (f' x : Int)) (ho : ∀ s, s ≠ x → f' s = f s)
    (h1 : w'.ownsMap Try.prog 9 (plainElem Try.prog 3) B n (D.put (.string x.data.toList) (.lit (.int .i64 v)))) : Tally w' B n f' := by
  refine ⟨_, h1, h2.put _ _, fun s => ?_⟩
  by_cases e : s = x
  · subst e
    rw [Maps.atKey_put_same h2 (by trivial), hv]
  · rw [Maps.atKey_put_other (str_lit_ne e), h3, ho s e]

theorem Tally.del {w' : World} {B n : Nat} {f : ByteArray → Nat} {D : DataW Unit} {x : ByteArray} (h2 : Maps.IsMap D) (h3 : ∀ s : ByteArray, D.atKey (.string s.data.toList) (.lit (.int .i64 0)) = .lit (.int .i64 (f s : Int)))
    (h1 : w'.ownsMap Try.prog 9 (plainElem Try.prog 3) B n (D.del (.string x.data.toList))) : Tally w' B n (fun s => if s = x then 0 else f s) := by
  refine ⟨_, h1, h2.del _, fun s => ?_⟩
  by_cases e : s = x
  · subst e
    rw [Maps.atKey_del_same]; simp
  · rw [Maps.atKey_del_other (str_lit_ne e), h3]; simp [e]



end Go.Proofs.Ytdeaiefhegjalaa.pairs

namespace Go.Proofs.Ytdeaiefhegjalaa.ords
open Go Go.RowKit Go.Proofs.Ytdeaiefhegjalaa.base Go.Proofs.Ytdeaiefhegjalaa.pairs
set_option linter.unusedVariables false
set_option linter.unusedSimpArgs false

/-- whether a need holds -/
def need1 (m : List Pr) (k v : ByteArray) : Bool := match getKey k m with | none => decide (v.size = 0) | some x => decide (v.size ≠ 0) && decide (x = v)
theorem meet1_need (m : List Pr) (z : Int) (k v : ByteArray) : meet1 m (z, k, v) = (decide (z ≠ 3) || need1 m k v) := rfl



set_option maxHeartbeats 400000 in
theorem impl_shardOf (key : ByteArray) (n : Int) (w : World) (hs : key.size ≤ 1099511627776) (hn : (Lit.int .i64 n).wf = true) :
    Calls Try.prog 44 #[.string key, .int .i64 n] w fun e w' => e = .returned (.int .i64 (shardOf key n)) ∧ Below w.heap.size w w' := by
  have hH := hashOf_lt key.data.toList
  have HC := Hid.mk' (hash.impl_hash key w (by unfold maxLen; omega))
  unfold shardOf
  generalize hashOf key.data.toList = H at *
  by_cases h1 : n < 1
  · rw [if_pos h1]
    go_enter Try.func44, Try.ntmps44
    go_wp2_with fail
    go_ret
    exact ⟨rfl, Below.refl _ _⟩
  · rw [if_neg h1]
    have h2 : Int.tmod (H : Int) n = (H : Int) % n := Int.tmod_eq_emod_of_nonneg (by omega)
    have h3 : 0 ≤ (H : Int) % n := Int.emod_nonneg _ (by omega)
    have h4 : (H : Int) % n ≤ 4294967296 := by
      have h5 := Int.emod_add_ediv_mul (H : Int) n
      have h6 : 0 ≤ (H : Int) / n * n := Int.mul_nonneg (Int.ediv_nonneg (by omega) (by omega)) (by omega)
      omega
    generalize (H : Int) % n = R at *
    go_enter Try.func44, Try.ntmps44
    go_wp2_with fail
    refine HC.out.mono ?_
    rintro e w1 ⟨rfl, hb1⟩
    go_wp2_with fail
    go_ret
    exact ⟨rfl, hb1⟩


end Go.Proofs.Ytdeaiefhegjalaa.ords
