/- Plain mathematics: a list of texts comes back of its bytes; with one byte turned a text has another hash. -/
import Derived.Test.YtdiiabfkckbajaaNumMath
namespace Go.Proofs.Ytdiiabfkckbajaa.textmath
open Go.RowKit Go.Proofs.Ytdiiabfkckbajaa.base Go.Proofs.Ytdiiabfkckbajaa.help Go.Proofs.Ytdiiabfkckbajaa.getnum Go.Proofs.Ytdiiabfkckbajaa.putnum Go.Proofs.Ytdiiabfkckbajaa.gettext Go.Proofs.Ytdiiabfkckbajaa.puttext Go.Proofs.Ytdiiabfkckbajaa.gettexts Go.Proofs.Ytdiiabfkckbajaa.puttexts Go.Proofs.Ytdiiabfkckbajaa.nummath
set_option linter.unusedVariables false
set_option linter.unusedSimpArgs false

theorem textsBytes_cons (s : ByteArray) (l : List ByteArray) : textsBytes (s :: l) = textBytes s ++ textsBytes l := by simp [textsBytes]
theorem read_put (pre : List UInt8) (ss acc : List ByteArray) (h : ∀ s ∈ ss, s.size ≤ 1000000000) :
    readTexts (pre ++ textsBytes ss) ss.length pre.length acc = some (acc ++ ss, pre.length + (textsBytes ss).length) := by
  induction ss generalizing pre acc with
  | nil => simp [readTexts, textsBytes]
  | cons s l ih =>
    have h1 := getText_put pre (textsBytes l) s (h s List.mem_cons_self)
    have h2 := ih (pre ++ textBytes s) (acc ++ [s]) (fun x hx => h x (List.mem_cons_of_mem _ hx))
    rw [List.length_append] at h2
    simp only [List.length_cons, readTexts, textsBytes_cons]
    rw [← List.append_assoc, h1]
    simp only []
    rw [h2]
    simp [Nat.add_assoc]
theorem getTexts_put (bs : List UInt8) (ss : List ByteArray) (hn : ss.length ≤ 200) (h : ∀ s ∈ ss, s.size ≤ 1000000000) :
    getTexts (bs ++ listBytes ss) (bs.length : Int) = some (ss, bs.length + (listBytes ss).length) := by
  unfold getTexts
  have h1 := getNum_put bs (textsBytes ss) (ss.length : Int)
  rw [clamp_nat _ (by omega), List.append_assoc] at h1
  have h2 := read_put (bs ++ numBytes (ss.length : Int)) ss [] h
  rw [List.append_assoc, List.length_append] at h2
  show (match getNum (bs ++ (numBytes (ss.length : Int) ++ textsBytes ss)) (bs.length : Int) with
    | none => none
    | some (n, k) => if 200 < n then none else readTexts (bs ++ (numBytes (ss.length : Int) ++ textsBytes ss)) n ((bs.length : Int).toNat + k) []) = _
  rw [h1]
  simp only [Int.toNat_natCast]
  rw [if_neg (by omega), h2]
  simp [listBytes, Nat.add_assoc]

/-! ### the hash -/
theorem mul_inv (x y : Nat) (hx : x < 4294967296) (hy : y < 4294967296) (h : x * 16777619 % 4294967296 = y * 16777619 % 4294967296) : x = y := by
  have hx' : x * 16777619 % 4294967296 * 899433627 % 4294967296 = x := by
    rw [Nat.mod_mul_mod, Nat.mul_assoc, show 16777619 * 899433627 = 3513497 * 4294967296 + 1 by decide, Nat.mul_add, ← Nat.mul_assoc, Nat.mul_one, Nat.add_comm, Nat.add_mul_mod_self_right]
    exact Nat.mod_eq_of_lt hx
  have hy' : y * 16777619 % 4294967296 * 899433627 % 4294967296 = y := by
    rw [Nat.mod_mul_mod, Nat.mul_assoc, show 16777619 * 899433627 = 3513497 * 4294967296 + 1 by decide, Nat.mul_add, ← Nat.mul_assoc, Nat.mul_one, Nat.add_comm, Nat.add_mul_mod_self_right]
    exact Nat.mod_eq_of_lt hy
  rw [← hx', ← hy', h]
theorem xor_right (h x y : Nat) (e : h ^^^ x = h ^^^ y) : x = y := by
  have := congrArg (h ^^^ ·) e
  simpa [← Nat.xor_assoc] using this
theorem xor_left (h x y : Nat) (e : x ^^^ h = y ^^^ h) : x = y := by
  rw [Nat.xor_comm x, Nat.xor_comm y] at e; exact xor_right h x y e
theorem hstep_left (h h' c : Nat) (hh : h < 4294967296) (hh' : h' < 4294967296) (hc : c < 256) (e : hstep h c = hstep h' c) : h = h' := by
  unfold hstep at e
  exact xor_left c h h' (mul_inv _ _ (xor_lt h c hh hc) (xor_lt h' c hh' hc) e)
theorem hstep_right (h c c' : Nat) (hh : h < 4294967296) (hc : c < 256) (hc' : c' < 256) (e : hstep h c = hstep h c') : c = c' := by
  unfold hstep at e
  exact xor_right h c c' (mul_inv _ _ (xor_lt h c hh hc) (xor_lt h c' hh hc') e)
theorem fold_inj (l : List UInt8) (h h' : Nat) (hh : h < 4294967296) (hh' : h' < 4294967296) (e : l.foldl (fun h c => hstep h c.toNat) h = l.foldl (fun h c => hstep h c.toNat) h') : h = h' := by
  induction l generalizing h h' with
  | nil => exact e
  | cons c l ih =>
    simp only [List.foldl_cons] at e
    exact hstep_left h h' c.toNat hh hh' c.toNat_lt (ih _ _ (hstep_lt _ _) (hstep_lt _ _) e)
theorem hash_turn (l : List UInt8) (i : Nat) (hi : i < l.length) (u : UInt8) (hu : u ≠ l[i]) : hashOf (l.set i u) ≠ hashOf l := by
  intro e
  have e1 : l = l.take i ++ l[i] :: l.drop (i + 1) := by rw [← List.drop_eq_getElem_cons hi, List.take_append_drop]
  have e2 : l.set i u = l.take i ++ u :: l.drop (i + 1) := by rw [List.set_eq_take_append_cons_drop, if_pos hi]
  have h1 : hashOf (l.take i ++ u :: l.drop (i + 1)) = hashOf (l.take i ++ l[i] :: l.drop (i + 1)) := by rw [← e2, ← e1]; exact e
  unfold hashOf at h1
  rw [List.foldl_append, List.foldl_append, List.foldl_cons, List.foldl_cons] at h1
  have h2 := fold_inj _ _ _ (hstep_lt _ _) (hstep_lt _ _) h1
  have h3 := hstep_right _ _ _ (hashOf_lt (l.take i)) u.toNat_lt (l[i]).toNat_lt h2
  exact hu (UInt8.toNat_inj.1 h3)

end Go.Proofs.Ytdiiabfkckbajaa.textmath
