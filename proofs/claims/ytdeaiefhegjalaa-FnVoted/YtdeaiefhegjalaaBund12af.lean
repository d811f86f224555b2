/- Plain mathematics: numbers and texts come back of their bytes. Plain mathematics of orders: what is told of them, their bytes, and that these come back. Rows of pairs of texts: small facts on worlds; no function of the program is named here. -/
import Derived.Test.YtdeaiefhegjalaaBund12ad
import Derived.Test.YtdeaiefhegjalaaBund12ae
import Derived.Test.YtdeaiefhegjalaaBund12ab
import Derived.OwnWalk
namespace Go.Proofs.Ytdeaiefhegjalaa.nummath
open Go.RowKit Go.Proofs.Ytdeaiefhegjalaa.base Go.Proofs.Ytdeaiefhegjalaa.help Go.Proofs.Ytdeaiefhegjalaa.getnum Go.Proofs.Ytdeaiefhegjalaa.putnum Go.Proofs.Ytdeaiefhegjalaa.gettext Go.Proofs.Ytdeaiefhegjalaa.puttext Go.Proofs.Ytdeaiefhegjalaa.gettexts Go.Proofs.Ytdeaiefhegjalaa.puttexts
set_option linter.unusedVariables false
set_option linter.unusedSimpArgs false

theorem byteN (n : Nat) (h : n < 256) : (UInt8.ofNat n).toNat = n := by
  have := byte_of n; omega

theorem get_groups (f n k m : Nat) (rest : List UInt8) (hn : n < 128 ^ (f + 1)) (hk : k + f ≤ 4) (hz : k = 0 ∨ 0 < n) (hm : m + n * 128 ^ k ≤ 1000000000) :
    getGo (groups f n ++ rest) k m = some (m + n * 128 ^ k, k + (groups f n).length) := by
  induction f generalizing n k m with
  | zero =>
    have hn' : n < 128 := by simpa using hn
    simp only [groups, List.singleton_append, getGo, List.length_singleton]
    rw [if_neg (by omega), byteN n (by omega), if_neg (by omega), Nat.mod_eq_of_lt hn', if_neg (by omega)]
  | succ f ih =>
    by_cases hlt : n < 128
    · rw [groups_low _ _ hlt]
      simp only [List.singleton_append, getGo, List.length_singleton]
      rw [if_neg (by omega), byteN n (by omega), if_neg (by omega), Nat.mod_eq_of_lt hlt, if_neg (by omega)]
    · rw [groups_high f n (by omega)]
      simp only [List.cons_append, getGo, List.length_cons]
      have e1 : (128 + n % 128) % 128 = n % 128 := by omega
      have e2 : m + n % 128 * 128 ^ k + n / 128 * 128 ^ (k + 1) = m + n * 128 ^ k := by
        have h1 : n / 128 * 128 ^ (k + 1) = (n / 128 * 128) * 128 ^ k := by rw [Nat.pow_succ]; ac_rfl
        have h2 : n % 128 * 128 ^ k + (n / 128 * 128) * 128 ^ k = n * 128 ^ k := by
          rw [← Nat.add_mul]; congr 1; omega
        omega
      rw [if_neg (by omega), byteN (128 + n % 128) (by omega), if_pos (by omega), e1,
        ih (n / 128) (k + 1) (m + n % 128 * 128 ^ k) (by rw [Nat.pow_succ] at hn; exact Nat.div_lt_of_lt_mul (by omega)) (by omega) (by omega) (by omega), e2]
      congr 2
      omega
theorem get_cut (f n k m : Nat) : getGo (groups f n).dropLast k m = none := by
  induction f generalizing n k m with
  | zero => simp [groups, getGo]
  | succ f ih =>
    by_cases hlt : n < 128
    · rw [groups_low _ _ hlt]; simp [getGo]
    · rw [groups_high f n (by omega)]
      have hne : groups f (n / 128) ≠ [] := by
        intro e
        have := (groups_length f (n / 128)).1
        rw [e] at this; simp at this
      rw [List.dropLast_cons_of_ne_nil hne]
      simp only [getGo]
      split
      · rfl
      · rw [byteN (128 + n % 128) (by omega), if_pos (by omega)]
        exact ih _ _ _

theorem getNum_put (bs rest : List UInt8) (z : Int) : getNum (bs ++ numBytes z ++ rest) (bs.length : Int) = some (clamp z, (numBytes z).length) := by
  unfold getNum numBytes
  have hc := clamp_le z
  rw [if_neg (by omega), Int.toNat_natCast, List.append_assoc, List.drop_left]
  have := get_groups 4 (clamp z) 0 0 rest (by omega) (by omega) (.inl rfl) (by omega)
  simpa using this
theorem getNum_cut (bs : List UInt8) (z : Int) (n : Nat) (hn : n + 1 = (bs ++ numBytes z).length) : getNum ((bs ++ numBytes z).take n) (bs.length : Int) = none := by
  unfold getNum
  rw [if_neg (by omega), Int.toNat_natCast]
  have hl := numBytes_length z
  simp only [List.length_append] at hn
  have e : (bs ++ numBytes z).take n = bs ++ (numBytes z).dropLast := by
    rw [List.dropLast_eq_take, List.take_append]
    congr 1
    · exact List.take_of_length_le (by omega)
    · congr 1; omega
  rw [e, List.drop_left]
  exact get_cut _ _ _ _
theorem clamp_nat (n : Nat) (h : n ≤ 1000000000) : clamp (n : Int) = n := by
  unfold clamp; rw [if_neg (by omega), if_neg (by omega), Int.toNat_natCast]
theorem getText_put (bs rest : List UInt8) (s : ByteArray) (h : s.size ≤ 1000000000) : getText (bs ++ textBytes s ++ rest) (bs.length : Int) = some (s, (textBytes s).length) := by
  unfold getText
  have e : bs ++ textBytes s ++ rest = bs ++ numBytes (s.size : Int) ++ (s.data.toList ++ rest) := by simp [textBytes]
  have h1 := getNum_put bs (s.data.toList ++ rest) (s.size : Int)
  rw [← e, clamp_nat s.size h] at h1
  rw [h1]
  simp only [Int.toNat_natCast]
  have hlen : (textBytes s).length = (numBytes (s.size : Int)).length + s.size := by simp [textBytes]
  rw [if_neg (by simp only [List.length_append]; omega), hlen]
  congr 2
  unfold cut
  apply WideShapes.bytes_inj
  rw [e]
  simp only []
  rw [show bs.length + (numBytes (s.size : Int)).length = (bs ++ numBytes (s.size : Int)).length by simp, List.drop_left]
  simp

end Go.Proofs.Ytdeaiefhegjalaa.nummath

namespace Go.Proofs.Ytdeaiefhegjalaa.ords
open Go Go.RowKit Go.Proofs.Ytdeaiefhegjalaa.base Go.Proofs.Ytdeaiefhegjalaa.pairs Go.Proofs.Ytdeaiefhegjalaa.putnum Go.Proofs.Ytdeaiefhegjalaa.puttext Go.Proofs.Ytdeaiefhegjalaa.getnum Go.Proofs.Ytdeaiefhegjalaa.gettext Go.Proofs.Ytdeaiefhegjalaa.gettexts Go.Proofs.Ytdeaiefhegjalaa.nummath
set_option linter.unusedVariables false

abbrev Od := Int × ByteArray × ByteArray
def odOk (o : Od) : Bool := decide (1 ≤ o.1 ∧ o.1 ≤ 3) && (decide (o.1 ≠ 2) || decide (o.2.2.size = 0)) && keyOk o.2.1 && decide (o.2.2.size ≤ 20)
def opsFrom : Option ByteArray → List Od → Bool
  | _, [] => true
  | none, o :: l => odOk o && opsFrom (some o.2.1) l
  | some k, o :: l => odOk o && ltB k o.2.1 && opsFrom (some o.2.1) l
def opsOk (l : List Od) : Bool := opsFrom none l && decide (1 ≤ l.length ∧ l.length ≤ 8)
def meet1 (m : List Pr) (o : Od) : Bool := decide (o.1 ≠ 3) || match getKey o.2.1 m with | none => decide (o.2.2.size = 0) | some v => decide (o.2.2.size ≠ 0) && decide (v = o.2.2)
def meets (m : List Pr) (l : List Od) : Bool := l.all (meet1 m)
def apply1 (m : List Pr) (o : Od) : List Pr := if o.1 = 1 then putKey o.2.1 o.2.2 m else if o.1 = 2 then delKey o.2.1 m else m
def applyAll (m : List Pr) (l : List Od) : List Pr := l.foldl apply1 m
def shardOf (key : ByteArray) (n : Int) : Int := if n < 1 then 0 else (hashOf key.data.toList : Int) % n
def opsFor (s n : Int) (l : List Od) : List Od := l.filter fun o => decide (shardOf o.2.1 n = s)
/-- a number in order, if it is not there -/
def putI (l : List Int) (n : Int) : List Int := if n ∈ l then l else l.filter (fun x => decide (x < n)) ++ n :: l.filter (fun x => decide (n < x))
def shardsOf (n : Int) (l : List Od) : List Int := l.foldl (fun u o => putI u (shardOf o.2.1 n)) []
def odBytes (o : Od) : List UInt8 := numBytes o.1 ++ textBytes o.2.1 ++ textBytes o.2.2
def odsBytes (l : List Od) : List UInt8 := (l.map odBytes).flatten
def putOps (l : List Od) : List UInt8 := if opsOk l = true then numBytes (l.length : Int) ++ odsBytes l else []
def getOp (bs : List UInt8) (p : Nat) : Option (Od × Nat) :=
  match getNum bs (p : Int) with
  | none => none
  | some (kind, a) => match getText bs ((p + a : Nat) : Int) with
    | none => none
    | some (key, b) => match getText bs ((p + a + b : Nat) : Int) with
      | none => none
      | some (val, c) => some (((kind : Int), key, val), p + a + b + c)
def readOps (bs : List UInt8) : Nat → Nat → List Od → Option (List Od × Nat)
  | 0, p, acc => some (acc, p)
  | c + 1, p, acc =>
    match getOp bs p with
    | none => none
    | some (o, q) => readOps bs c q (acc ++ [o])
def getOps (bs : List UInt8) : Option (List Od) :=
  match getNum bs 0 with
  | none => none
  | some (n, k) => if 8 < n then none else
    match readOps bs n k [] with
    | none => none
    | some (l, p) => if p = bs.length ∧ opsOk l = true then some l else none

/-! ### orders that are right -/
def RiseO (l : List Od) : Prop := l.Pairwise fun p q => ltB p.2.1 q.2.1 = true
theorem opsFrom_iff (o : Option ByteArray) (l : List Od) : opsFrom o l = true ↔ (∀ p ∈ l, odOk p = true) ∧ RiseO l ∧ ∀ k, o = some k → ∀ p ∈ l, ltB k p.2.1 = true := by
  induction l generalizing o with
  | nil => simp [opsFrom, RiseO]
  | cons p l ih =>
    have hi := ih (some p.2.1)
    unfold RiseO at hi ⊢
    rw [List.pairwise_cons]
    cases o with
    | none =>
      simp only [opsFrom, Bool.and_eq_true, hi, List.mem_cons, forall_eq_or_imp]
      constructor
      · rintro ⟨h1, h2, h3, h4⟩
        exact ⟨⟨h1, h2⟩, ⟨h4 _ rfl, h3⟩, fun k e => by cases e⟩
      · rintro ⟨⟨h1, h2⟩, ⟨h3, h4⟩, _⟩
        exact ⟨h1, h2, h4, fun k e q hq => by cases e; exact h3 q hq⟩
    | some k0 =>
      simp only [opsFrom, Bool.and_eq_true, hi, List.mem_cons, forall_eq_or_imp]
      constructor
      · rintro ⟨⟨h1, h0⟩, h2, h3, h4⟩
        refine ⟨⟨h1, h2⟩, ⟨h4 _ rfl, h3⟩, fun k e => ?_⟩
        cases e
        exact ⟨h0, fun q hq => ltB_trans h0 (h4 _ rfl q hq)⟩
      · rintro ⟨⟨h1, h2⟩, ⟨h3, h4⟩, h5⟩
        exact ⟨⟨h1, (h5 k0 rfl).1⟩, h2, h4, fun k e q hq => by cases e; exact h3 q hq⟩
theorem opsOk_iff (l : List Od) : opsOk l = true ↔ ((∀ p ∈ l, odOk p = true) ∧ RiseO l) ∧ 1 ≤ l.length ∧ l.length ≤ 8 := by
  unfold opsOk
  rw [Bool.and_eq_true, opsFrom_iff, decide_eq_true_iff]
  constructor
  · rintro ⟨⟨h1, h2, _⟩, h3⟩; exact ⟨⟨h1, h2⟩, h3⟩
  · rintro ⟨⟨h1, h2⟩, h3⟩; exact ⟨⟨h1, h2, fun k e => by cases e⟩, h3⟩
theorem odOk_iff (o : Od) : odOk o = true ↔ (1 ≤ o.1 ∧ o.1 ≤ 3) ∧ (o.1 = 2 → o.2.2.size = 0) ∧ keyOk o.2.1 = true ∧ o.2.2.size ≤ 20 := by
  unfold odOk
  simp only [Bool.and_eq_true, Bool.or_eq_true, decide_eq_true_iff]
  constructor
  · rintro ⟨⟨⟨h1, h2⟩, h3⟩, h4⟩
    exact ⟨h1, fun e => by rcases h2 with h | h; exact absurd e h; exact h, h3, h4⟩
  · rintro ⟨h1, h2, h3, h4⟩
    exact ⟨⟨⟨h1, by by_cases e : o.1 = 2; exact .inr (h2 e); exact .inl e⟩, h3⟩, h4⟩
theorem keyOk_size {s : ByteArray} (h : keyOk s = true) : 1 ≤ s.size ∧ s.size ≤ 12 := by
  unfold keyOk at h
  simp at h
  exact h.2

/-! ### bytes of numbers and texts, read -/
theorem getGo_canon (l : List UInt8) (k n m j : Nat) (h : getGo l k n = some (m, j)) (hk : k ≤ 4) : ∃ q, m = n + q * 128 ^ k ∧ (k = 0 ∨ 0 < q) ∧ l.take (j - k) = groups (4 - k) q ∧ k < j := by
  induction l generalizing k n with
  | nil => simp [getGo] at h
  | cons c l ih =>
    rw [getGo, if_neg (by omega)] at h
    have hc := c.toNat_lt
    by_cases h1 : 128 ≤ c.toNat
    · rw [if_pos h1] at h
      by_cases h4 : k = 4
      · subst h4
        rw [getGo_five _ _ _ (by omega)] at h
        cases h
      · obtain ⟨q, h5, h6, h7, h8⟩ := ih (k + 1) _ h (by omega)
        refine ⟨c.toNat % 128 + 128 * q, ?_, .inr (by omega), ?_, by omega⟩
        · rw [h5, Nat.pow_succ, Nat.add_mul]
          have : 128 * q * 128 ^ k = q * (128 ^ k * 128) := by rw [Nat.mul_comm 128 q, Nat.mul_assoc, Nat.mul_comm 128]
          omega
        · rw [show j - k = (j - (k + 1)) + 1 by omega, List.take_succ_cons, h7, show 4 - k = (4 - (k + 1)) + 1 by omega, groups_high _ _ (by omega)]
          rw [show (c.toNat % 128 + 128 * q) / 128 = q by omega, show 128 + (c.toNat % 128 + 128 * q) % 128 = c.toNat by omega]
          congr 1
          exact (UInt8.ofNat_toNat).symm
    · rw [if_neg h1] at h
      split at h
      · cases h
      · next h2 =>
        simp only [Option.some.injEq, Prod.mk.injEq] at h
        obtain ⟨h3, h4⟩ := h
        have hm : c.toNat % 128 = c.toNat := by omega
        refine ⟨c.toNat, by rw [← h3, hm], by omega, ?_, by omega⟩
        rw [← h4, show k + 1 - k = 1 by omega, groups_low _ _ (by omega)]
        simp
theorem getNum_bytes {bs : List UInt8} {p n k : Nat} (h : getNum bs (p : Int) = some (n, k)) : (bs.drop p).take k = numBytes (n : Int) := by
  have hs := getNum_some h
  unfold getNum at h
  rw [if_neg (by omega)] at h
  obtain ⟨q, h1, _, h3, _⟩ := getGo_canon _ _ _ _ _ h (by omega)
  have e : n = q := by omega
  subst e
  unfold numBytes
  rw [clamp_nat n hs.2.2.2.2]
  simpa using h3
theorem take_split (l : List UInt8) (p a b : Nat) : (l.drop p).take (a + b) = (l.drop p).take a ++ (l.drop (p + a)).take b := by
  rw [List.take_add, List.drop_drop]
theorem getText_bytes {bs : List UInt8} {p : Nat} {s : ByteArray} {k : Nat} (h : getText bs (p : Int) = some (s, k)) : (bs.drop p).take k = textBytes s := by
  unfold getText at h
  split at h
  · cases h
  · next n k0 hn =>
    split at h
    · cases h
    · next hlen =>
      simp only [Option.some.injEq, Prod.mk.injEq] at h
      obtain ⟨h1, h2⟩ := h
      have e1 := getNum_bytes hn
      rw [← h2, take_split, e1, ← h1]
      simp only [Int.toNat_natCast] at hlen ⊢
      unfold textBytes
      have hsz : (cut bs (p + k0) n).size = n := by
        unfold cut
        simp [ByteArray.size]
        omega
      rw [hsz]
      congr 1

/-! ### orders come back of their bytes -/
theorem odsBytes_cons (o : Od) (l : List Od) : odsBytes (o :: l) = odBytes o ++ odsBytes l := by simp [odsBytes]
theorem odsBytes_snoc (l : List Od) (o : Od) : odsBytes (l ++ [o]) = odsBytes l ++ odBytes o := by simp [odsBytes]
theorem odsBytes_take (l : List Od) (k : Nat) (h : k < l.length) : odsBytes (l.take (k + 1)) = odsBytes (l.take k) ++ odBytes l[k] := by
  rw [List.take_succ_eq_append_getElem h, odsBytes_snoc]
def odFits (o : Od) : Prop := (0 ≤ o.1 ∧ o.1 ≤ 1000000000) ∧ o.2.1.size ≤ 1000000000 ∧ o.2.2.size ≤ 1000000000
theorem odOk_fits {o : Od} (h : odOk o = true) : odFits o := by
  obtain ⟨h1, _, h3, h4⟩ := (odOk_iff o).1 h
  have := keyOk_size h3
  exact ⟨by omega, by omega, by omega⟩
theorem clamp_int {z : Int} (h0 : 0 ≤ z) (h1 : z ≤ 1000000000) : ((clamp z : Nat) : Int) = z := by
  unfold clamp; rw [if_neg (by omega), if_neg (by omega)]; omega
theorem getOp_put (pre rest : List UInt8) (o : Od) (h : odFits o) : getOp (pre ++ odBytes o ++ rest) pre.length = some (o, pre.length + (odBytes o).length) := by
  obtain ⟨kind, key, val⟩ := o
  obtain ⟨h1, h2, h3⟩ := h
  simp only [] at h1 h2 h3
  have e1 := getNum_put pre (textBytes key ++ textBytes val ++ rest) kind
  have e2 := getText_put (pre ++ numBytes kind) (textBytes val ++ rest) key h2
  have e3 := getText_put (pre ++ numBytes kind ++ textBytes key) rest val h3
  have ea : pre ++ numBytes kind ++ (textBytes key ++ textBytes val ++ rest) = pre ++ odBytes (kind, key, val) ++ rest := by simp [odBytes]
  have eb : pre ++ numBytes kind ++ textBytes key ++ (textBytes val ++ rest) = pre ++ odBytes (kind, key, val) ++ rest := by simp [odBytes]
  have ec : pre ++ numBytes kind ++ textBytes key ++ textBytes val ++ rest = pre ++ odBytes (kind, key, val) ++ rest := by simp [odBytes]
  rw [ea] at e1
  rw [eb] at e2
  rw [ec] at e3
  simp only [List.length_append] at e2 e3
  unfold getOp
  rw [e1]
  simp only []
  rw [e2]
  simp only []
  rw [e3]
  simp only [clamp_int h1.1 h1.2, Option.some.injEq, Prod.mk.injEq, true_and]
  simp [odBytes]
  omega
theorem readOps_put (pre : List UInt8) (l acc : List Od) (h : ∀ o ∈ l, odFits o) : readOps (pre ++ odsBytes l) l.length pre.length acc = some (acc ++ l, (pre ++ odsBytes l).length) := by
  induction l generalizing pre acc with
  | nil => simp [readOps, odsBytes]
  | cons o l ih =>
    rw [odsBytes_cons, List.length_cons, readOps, ← List.append_assoc, getOp_put pre (odsBytes l) o (h o List.mem_cons_self)]
    simp only []
    have := ih (pre ++ odBytes o) (acc ++ [o]) (fun x hx => h x (List.mem_cons_of_mem _ hx))
    rw [List.length_append] at this
    rw [this]
    simp
theorem getOps_put (l : List Od) (h : opsOk l = true) : getOps (putOps l) = some l := by
  obtain ⟨⟨h1, h2⟩, h3, h4⟩ := (opsOk_iff l).1 h
  unfold putOps getOps
  rw [if_pos h]
  have e1 := getNum_put [] (odsBytes l) (l.length : Int)
  simp only [List.nil_append, List.length_nil, clamp_nat l.length (by omega)] at e1
  rw [show ((0 : Nat) : Int) = 0 from rfl] at e1
  rw [e1]
  simp only []
  rw [if_neg (by omega), readOps_put (numBytes (l.length : Int)) l [] (fun o ho => odOk_fits (h1 o ho))]
  simp [h]
theorem getOp_bytes {bs : List UInt8} {p q : Nat} {o : Od} (h : getOp bs p = some (o, q)) : p ≤ q ∧ q ≤ bs.length ∧ (bs.drop p).take (q - p) = odBytes o ∧ o.2.1.size ≤ bs.length ∧ o.2.2.size ≤ bs.length ∧ 0 ≤ o.1 ∧ o.1 ≤ 1000000000 := by
  unfold getOp at h
  split at h
  · cases h
  · next kind a ha =>
    split at h
    · cases h
    · next key b hb =>
      split at h
      · cases h
      · next val c hc =>
        simp only [Option.some.injEq, Prod.mk.injEq] at h
        obtain ⟨rfl, rfl⟩ := h
        have s1 := getNum_some ha
        have s2 := getText_some hb
        have s3 := getText_some hc
        refine ⟨by omega, s3.1, ?_, s2.2, s3.2, by simp, by simp; omega⟩
        rw [show p + a + b + c - p = a + (b + c) by omega, take_split, take_split, getNum_bytes ha, getText_bytes hb, getText_bytes hc]
        simp [odBytes]
theorem readOps_bytes {bs : List UInt8} {c p q : Nat} {acc l : List Od} (h : readOps bs c p acc = some (l, q)) (hp : p ≤ bs.length) : ∃ t, l = acc ++ t ∧ t.length = c ∧ p ≤ q ∧ q ≤ bs.length ∧ (bs.drop p).take (q - p) = odsBytes t := by
  induction c generalizing p acc with
  | zero =>
    simp only [readOps, Option.some.injEq, Prod.mk.injEq] at h
    obtain ⟨rfl, rfl⟩ := h
    exact ⟨[], by simp, rfl, Nat.le_refl _, hp, by simp [odsBytes]⟩
  | succ c ih =>
    rw [readOps] at h
    split at h
    · cases h
    · next o q1 h1 =>
      have s1 := getOp_bytes h1
      obtain ⟨t, e1, e2, e3, e4, e5⟩ := ih h s1.2.1
      refine ⟨o :: t, by rw [e1]; simp, by simp [e2], by omega, e4, ?_⟩
      rw [show q - p = (q1 - p) + (q - q1) by omega, take_split, s1.2.2.1, show p + (q1 - p) = q1 by omega, e5, odsBytes_cons]
theorem getOps_some {bs : List UInt8} {l : List Od} (h : getOps bs = some l) : opsOk l = true ∧ putOps l = bs := by
  unfold getOps at h
  split at h
  · cases h
  · next n k hn =>
    have s1 := getNum_some hn
    have b1 := getNum_bytes (p := 0) hn
    split at h
    · cases h
    · split at h
      · cases h
      · next l' p hr =>
        obtain ⟨t, e1, e2, e3, e4, e5⟩ := readOps_bytes hr (by omega)
        split at h
        · next hp =>
          cases h
          refine ⟨hp.2, ?_⟩
          unfold putOps
          rw [if_pos hp.2]
          simp only [List.nil_append] at e1
          subst e1
          rw [e2, ← b1, ← e5, hp.1]
          simp
          rw [show (bs.drop k).take (bs.length - k) = bs.drop k from List.take_of_length_le (by simp), List.take_append_drop]
        · cases h
theorem opsOk_put (l : List Od) (h : opsOk l = false) : putOps l = [] := by unfold putOps; rw [if_neg (by rw [h]; decide)]

/-! ### behind orders -/
theorem apply_cons (m : List Pr) (o : Od) (l : List Od) : applyAll m (o :: l) = applyAll (apply1 m o) l := rfl
theorem apply_take (m : List Pr) (l : List Od) (k : Nat) (h : k < l.length) : applyAll m (l.take (k + 1)) = apply1 (applyAll m (l.take k)) l[k] := by
  unfold applyAll
  rw [List.take_succ_eq_append_getElem h, List.foldl_append]
  rfl
theorem get1_other {m : List Pr} {o : Od} {k : ByteArray} (h : k ≠ o.2.1) : getKey k (apply1 m o) = getKey k m := by
  unfold apply1
  split
  · exact getKey_put_other _ _ h
  · split
    · exact getKey_del_other _ h
    · rfl
theorem get_other {m : List Pr} {l : List Od} {k : ByteArray} (h : ∀ o ∈ l, k ≠ o.2.1) : getKey k (applyAll m l) = getKey k m := by
  induction l generalizing m with
  | nil => rfl
  | cons o l ih => rw [apply_cons, ih (fun x hx => h x (List.mem_cons_of_mem _ hx)), get1_other (h o List.mem_cons_self)]
/-- what an order's key has behind it -/
def saidBy (m : List Pr) (o : Od) : Option ByteArray := if o.1 = 1 then some o.2.2 else if o.1 = 2 then none else getKey o.2.1 m
theorem get1_said (m : List Pr) (o : Od) : getKey o.2.1 (apply1 m o) = saidBy m o := by
  unfold apply1 saidBy
  split
  · exact getKey_put_same _ _ _
  · split
    · exact getKey_del_same _ _
    · rfl
theorem get_said {m : List Pr} {l : List Od} (hr : RiseO l) : ∀ o ∈ l, getKey o.2.1 (applyAll m l) = saidBy m o := by
  induction l generalizing m with
  | nil => intro o ho; cases ho
  | cons p l ih =>
    unfold RiseO at hr
    rw [List.pairwise_cons] at hr
    intro o ho
    rw [apply_cons]
    rcases List.mem_cons.1 ho with rfl | ho
    · rw [get_other (fun x hx => ltB_ne (hr.1 x hx)), get1_said]
    · rw [ih hr.2 o ho]
      unfold saidBy
      rw [get1_other (fun e => ltB_ne (hr.1 o ho) e.symm)]
theorem del_id {key : ByteArray} {l : List Pr} (h : getKey key l = none) : delKey key l = l := by
  unfold delKey
  rw [List.filter_eq_self]
  intro p hp
  simpa using getKey_none_iff.1 h p hp
theorem apply_id (x : List Pr) (l : List Od) (h : ∀ o ∈ l, (o.1 = 1 → getKey o.2.1 x = some o.2.2) ∧ (o.1 = 2 → getKey o.2.1 x = none)) : applyAll x l = x := by
  induction l with
  | nil => rfl
  | cons o l ih =>
    rw [apply_cons]
    have e : apply1 x o = x := by
      have := h o List.mem_cons_self
      unfold apply1
      split
      · next h1 => exact put_id (this.1 h1)
      · split
        · next h2 => exact del_id (this.2 h2)
        · rfl
    rw [e]
    exact ih fun p hp => h p (List.mem_cons_of_mem _ hp)
theorem apply_twice (m : List Pr) (l : List Od) (hr : RiseO l) : applyAll (applyAll m l) l = applyAll m l := by
  refine apply_id _ _ fun o ho => ?_
  rw [get_said hr o ho]
  unfold saidBy
  exact ⟨fun e => if_pos e, fun e => by rw [if_neg (by omega), if_pos e]⟩
theorem apply_right {m : List Pr} {l : List Od} (hm : pairsOk m = true) (hl : ∀ o ∈ l, odOk o = true) (hn : m.length + l.length ≤ 60) : pairsOk (applyAll m l) = true ∧ (applyAll m l).length ≤ m.length + l.length := by
  induction l generalizing m with
  | nil => exact ⟨hm, by simp [applyAll]⟩
  | cons o l ih =>
    rw [apply_cons]
    have ho := (odOk_iff o).1 (hl o List.mem_cons_self)
    have hlen : (apply1 m o).length ≤ m.length + 1 := by
      unfold apply1
      split
      · exact (putKey_length _ _ _).1
      · split
        · exact Nat.le_trans (List.length_filter_le _ _) (by omega)
        · omega
    simp only [List.length_cons] at hn ⊢
    have hok : pairsOk (apply1 m o) = true := by
      unfold apply1 at hlen ⊢
      split
      · exact pairsOk_put hm ho.2.2.1 ho.2.2.2 (by omega)
      · split
        · have := (pairsOk_iff m).1 hm
          exact pairsOk_del this.1.1 this.1.2 (Nat.le_trans (List.length_filter_le _ _) this.2)
        · exact hm
    have := ih hok (fun x hx => hl x (List.mem_cons_of_mem _ hx)) (by omega)
    exact ⟨this.1, by omega⟩

/-! ### shards -/
def Asc (l : List Int) : Prop := l.Pairwise (· < ·)
theorem putI_mem (l : List Int) (n x : Int) : x ∈ putI l n ↔ x ∈ l ∨ x = n := by
  unfold putI
  split
  · next h =>
    constructor
    · exact .inl
    · rintro (h1 | rfl)
      · exact h1
      · exact h
  · next h =>
    simp only [List.mem_append, List.mem_filter, List.mem_cons, decide_eq_true_iff]
    constructor
    · rintro (h1 | rfl | h1)
      · exact .inl h1.1
      · exact .inr rfl
      · exact .inl h1.1
    · rintro (h1 | rfl)
      · have hne : x ≠ n := fun e => h (e ▸ h1)
        rcases Int.lt_or_gt_of_ne hne with h2 | h2
        · exact .inl ⟨h1, h2⟩
        · exact .inr (.inr ⟨h1, h2⟩)
      · exact .inr (.inl rfl)
theorem putI_asc {l : List Int} (h : Asc l) (n : Int) : Asc (putI l n) := by
  unfold putI
  split
  · exact h
  · unfold Asc at h ⊢
    rw [List.pairwise_append, List.pairwise_cons]
    refine ⟨h.filter _, ⟨fun x hx => by simpa using (List.mem_filter.1 hx).2, h.filter _⟩, fun a ha b hb => ?_⟩
    have h1 : a < n := by simpa using (List.mem_filter.1 ha).2
    rcases List.mem_cons.1 hb with rfl | hb
    · exact h1
    · have h2 : n < b := by simpa using (List.mem_filter.1 hb).2
      omega
theorem fold_shards (n : Int) (l : List Od) (u : List Int) (h : Asc u) : Asc (l.foldl (fun u o => putI u (shardOf o.2.1 n)) u) ∧ ∀ x, x ∈ l.foldl (fun u o => putI u (shardOf o.2.1 n)) u ↔ x ∈ u ∨ ∃ o ∈ l, shardOf o.2.1 n = x := by
  induction l generalizing u with
  | nil => exact ⟨h, fun x => by simp⟩
  | cons o l ih =>
    have := ih (putI u (shardOf o.2.1 n)) (putI_asc h _)
    refine ⟨this.1, fun x => ?_⟩
    rw [List.foldl_cons, this.2 x, putI_mem]
    simp only [List.mem_cons, exists_eq_or_imp]
    constructor
    · rintro ((h1 | h1) | h1)
      · exact .inl h1
      · exact .inr (.inl h1.symm)
      · exact .inr (.inr h1)
    · rintro (h1 | h1 | h1)
      · exact .inl (.inl h1)
      · exact .inl (.inr h1.symm)
      · exact .inr h1
theorem shards_asc (n : Int) (l : List Od) : Asc (shardsOf n l) := (fold_shards n l [] List.Pairwise.nil).1
theorem shards_mem (n : Int) (l : List Od) (x : Int) : x ∈ shardsOf n l ↔ ∃ o ∈ l, shardOf o.2.1 n = x := by
  have := (fold_shards n l [] List.Pairwise.nil).2 x
  simpa [shardsOf] using this
theorem shards_take (n : Int) (l : List Od) (k : Nat) (h : k < l.length) : shardsOf n (l.take (k + 1)) = putI (shardsOf n (l.take k)) (shardOf l[k].2.1 n) := by
  unfold shardsOf
  rw [List.take_succ_eq_append_getElem h, List.foldl_append]
  rfl
theorem shardOf_range (key : ByteArray) (n : Int) : 0 ≤ shardOf key n ∧ (0 < n → shardOf key n < n) := by
  unfold shardOf
  split
  · exact ⟨by omega, fun h => by omega⟩
  · next h => exact ⟨Int.emod_nonneg _ (by omega), fun h0 => Int.emod_lt_of_pos _ h0⟩
theorem shardOf_lt (key : ByteArray) (n : Int) : shardOf key n < 4294967296 := by
  unfold shardOf
  split
  · omega
  · next h =>
    have h1 := hashOf_lt key.data.toList
    have h2 := Int.emod_add_ediv_mul (hashOf key.data.toList : Int) n
    have h3 : 0 ≤ (hashOf key.data.toList : Int) / n * n := Int.mul_nonneg (Int.ediv_nonneg (by omega) (by omega)) (by omega)
    omega
/-- two lists that rise and have the same -/
theorem asc_ext {a b : List Int} (ha : Asc a) (hb : Asc b) (h : ∀ x, x ∈ a ↔ x ∈ b) : a = b := by
  induction a generalizing b with
  | nil =>
    cases b with
    | nil => rfl
    | cons y b => exact absurd ((h y).2 List.mem_cons_self) List.not_mem_nil
  | cons x a ih =>
    cases b with
    | nil => exact absurd ((h x).1 List.mem_cons_self) List.not_mem_nil
    | cons y b =>
      unfold Asc at ha hb
      rw [List.pairwise_cons] at ha hb
      have e : x = y := by
        rcases List.mem_cons.1 ((h x).1 List.mem_cons_self) with e | h1
        · exact e
        · rcases List.mem_cons.1 ((h y).2 List.mem_cons_self) with e | h2
          · exact e.symm
          · have := hb.1 x h1
            have := ha.1 y h2
            omega
      subst e
      congr 1
      refine ih ha.2 hb.2 fun z => ?_
      constructor
      · intro hz
        rcases List.mem_cons.1 ((h z).1 (List.mem_cons_of_mem _ hz)) with e | h1
        · subst e; have := ha.1 z hz; omega
        · exact h1
      · intro hz
        rcases List.mem_cons.1 ((h z).2 (List.mem_cons_of_mem _ hz)) with e | h1
        · subst e; have := hb.1 z hz; omega
        · exact h1
/-- the parts at shards that are unlike, and are all that have any, are all -/
theorem parts_all (n : Int) (l : List Od) (ss : List Int) (h : Asc ss) : ((ss.map fun s => (opsFor s n l).length).sum) = (l.filter fun o => decide (shardOf o.2.1 n ∈ ss)).length := by
  induction ss with
  | nil =>
    have e : l.filter (fun o => decide (shardOf o.2.1 n ∈ ([] : List Int))) = [] := by rw [List.filter_eq_nil_iff]; intro a _; simp
    rw [e]; rfl
  | cons s ss ih =>
    unfold Asc at h
    rw [List.pairwise_cons] at h
    rw [List.map_cons, List.sum_cons, ih h.2]
    unfold opsFor
    clear ih
    induction l with
    | nil => rfl
    | cons o l ih2 =>
      simp only [List.filter_cons, List.mem_cons]
      by_cases h1 : shardOf o.2.1 n = s
      · have h2 : ¬ shardOf o.2.1 n ∈ ss := fun hm => by have := h.1 _ hm; omega
        simp only [h1, decide_true, if_true, true_or, List.length_cons]
        rw [h1] at h2
        simp only [h2, decide_false, Bool.false_eq_true, if_false]
        simp only [List.mem_cons] at ih2
        omega
      · by_cases h2 : shardOf o.2.1 n ∈ ss
        · simp only [h1, h2, decide_false, decide_true, Bool.false_eq_true, if_false, if_true, or_true, List.length_cons]
          simp only [List.mem_cons] at ih2
          omega
        · simp only [h1, h2, decide_false, Bool.false_eq_true, if_false, or_self]
          simp only [List.mem_cons] at ih2
          exact ih2
theorem shards_all (n : Int) (l : List Od) : (((shardsOf n l).map fun s => (opsFor s n l).length).sum) = l.length := by
  rw [parts_all n l _ (shards_asc n l)]
  congr 1
  rw [List.filter_eq_self]
  intro o ho
  simpa using (shards_mem n l _).2 ⟨o, ho, rfl⟩
theorem shards_part (n : Int) (l : List Od) (s : Int) (h : s ∈ shardsOf n l) : opsFor s n l ≠ [] := by
  obtain ⟨o, ho, e⟩ := (shards_mem n l s).1 h
  intro hn
  have : o ∈ opsFor s n l := List.mem_filter.2 ⟨ho, by simpa using e⟩
  rw [hn] at this
  cases this
end Go.Proofs.Ytdeaiefhegjalaa.ords

namespace Go.Proofs.Ytdeaiefhegjalaa.pairs
open Go Go.RowKit Go.Proofs.Ytdeaiefhegjalaa.base
set_option linter.unusedVariables false
set_option linter.unusedSimpArgs false

def small (p : Pr) : Prop := p.1.size ≤ maxLen ∧ p.2.size ≤ maxLen
def pairVals (l : List Pr) : List Value := l.flatMap fun p => [.string p.1, .string p.2]
theorem pairVals_cons (p : Pr) (l : List Pr) : pairVals (p :: l) = .string p.1 :: .string p.2 :: pairVals l := rfl
theorem pairVals_append (a b : List Pr) : pairVals (a ++ b) = pairVals a ++ pairVals b := by simp [pairVals]
theorem pairVals_length (l : List Pr) : (pairVals l).length = l.length * 2 := by
  induction l with
  | nil => rfl
  | cons p l ih => rw [pairVals_cons]; simp [ih]; omega
theorem pairVals_key (l : List Pr) (i : Nat) (h : i < l.length) : (pairVals l)[i * 2]? = some (.string l[i].1) := by
  induction l generalizing i with
  | nil => simp at h
  | cons p l ih =>
    cases i with
    | zero => rfl
    | succ i => rw [pairVals_cons, show (i + 1) * 2 = i * 2 + 1 + 1 by omega]; simpa using ih i (by simpa using h)
theorem pairVals_val (l : List Pr) (i : Nat) (h : i < l.length) : (pairVals l)[i * 2 + 1]? = some (.string l[i].2) := by
  induction l generalizing i with
  | nil => simp at h
  | cons p l ih =>
    cases i with
    | zero => rfl
    | succ i => rw [pairVals_cons, show (i + 1) * 2 + 1 = i * 2 + 1 + 1 + 1 by omega]; simpa using ih i (by simpa using h)
theorem pairVals_oneCell (l : List Pr) : ∀ v ∈ pairVals l, v.oneCell' = true := by
  intro v hv
  obtain ⟨p, _, hp⟩ := List.mem_flatMap.1 hv
  simp at hp
  rcases hp with rfl | rfl <;> rfl
theorem pairVals_setKey (l : List Pr) (i : Nat) (h : i < l.length) (k : ByteArray) : (pairVals l).set (i * 2) (.string k) = pairVals (l.set i (k, l[i].2)) := by
  induction l generalizing i with
  | nil => simp at h
  | cons p l ih =>
    cases i with
    | zero => rfl
    | succ i => rw [pairVals_cons, show (i + 1) * 2 = i * 2 + 1 + 1 by omega]; simp only [List.set_cons_succ, pairVals_cons, List.getElem_cons_succ]; rw [ih i (by simpa using h)]
theorem pairVals_setVal (l : List Pr) (i : Nat) (h : i < l.length) (v : ByteArray) : (pairVals l).set (i * 2 + 1) (.string v) = pairVals (l.set i (l[i].1, v)) := by
  induction l generalizing i with
  | nil => simp at h
  | cons p l ih =>
    cases i with
    | zero => rfl
    | succ i => rw [pairVals_cons, show (i + 1) * 2 + 1 = i * 2 + 1 + 1 + 1 by omega]; simp only [List.set_cons_succ, pairVals_cons, List.getElem_cons_succ]; rw [ih i (by simpa using h)]

/-! ### slices of pairs that are read -/
/-- the two cells of each -/
def CellsP (w : World) (b off : Nat) (l : List Pr) : Prop := ∀ i (h : i < l.length), w.cell? ⟨b, off + i * 2, none⟩ = some (.string l[i].1) ∧ w.cell? ⟨b, off + i * 2 + 1, none⟩ = some (.string l[i].2)
def SlP (w : World) (a : Option Addr) (len : Nat) (l : List Pr) : Prop :=
  l.length = len ∧ len ≤ maxLen ∧ (∀ p ∈ l, small p) ∧ (0 < len → ∃ b off, a = some ⟨b, off, none⟩ ∧ CellsP w b off l)
theorem slp_nil (w : World) (a : Option Addr) : SlP w a 0 [] := ⟨rfl, Nat.zero_le _, (fun _ h => absurd h List.not_mem_nil), fun h => absurd h (by omega)⟩
section
variable {w w' : World} {a : Option Addr} {b off len base base' g n cap : Nat} {l : List Pr} {row : Option Nat}
theorem SlP.cells (h : SlP w (some ⟨b, off, none⟩) len l) : CellsP w b off l := by
  intro i hi
  obtain ⟨b', off', e, hc⟩ := h.2.2.2 (by have := h.1; omega)
  simp only [Option.some.injEq, Addr.mk.injEq, and_true] at e
  obtain ⟨rfl, rfl⟩ := e
  exact hc i hi
theorem SlP.lt (h : SlP w (some ⟨b, off, none⟩) len l) (h0 : 0 < len) : b < w.heap.size :=
  World.block_lt_of_cell? w _ (h.cells 0 (by have := h.1; omega)).1
theorem CellsP.keep (h : CellsP w b off l) (hk : ∀ o v, w.cell? ⟨b, o, none⟩ = some v → w'.cell? ⟨b, o, none⟩ = some v) : CellsP w' b off l :=
  fun i hi => ⟨hk _ _ (h i hi).1, hk _ _ (h i hi).2⟩
theorem SlP.below (h : SlP w a len l) (hb : Below w.heap.size w w') : SlP w' a len l := by
  obtain ⟨h1, h2, h4, h3⟩ := h
  refine ⟨h1, h2, h4, fun h0 => ?_⟩
  obtain ⟨b, off, rfl, hc⟩ := h3 h0
  exact ⟨b, off, rfl, hc.keep fun o v hv => (hb.cell (p := ⟨b, o, none⟩) (World.block_lt_of_cell? w _ hv)).trans hv⟩
theorem SlP.grown (h : SlP w (some ⟨b, off, none⟩) len l) (hg : w.grownBy w' row) (hne : some b ≠ row) : SlP w' (some ⟨b, off, none⟩) len l :=
  ⟨h.1, h.2.1, h.2.2.1, fun _ => ⟨b, off, rfl, h.cells.keep fun o v hv => hg.cell hv hne⟩⟩

/-! ### rows of pairs that a call made -/
def OwnP (w : World) (base g n cap : Nat) (l : List Pr) : Prop := l.length = n ∧ (∀ p ∈ l, small p) ∧ w.ownsRow base 130 2 (.slice (some ⟨g, 0, none⟩) n cap) n (pairVals l)
theorem OwnP.lt (h : OwnP w base g n cap l) : base ≤ g ∧ g < w.heap.size := h.2.2.lt g rfl
theorem OwnP.cases (h : OwnP w base g n cap l) : n ≤ cap ∧ cap ≤ maxLen := by
  rcases h.2.2.2 with ⟨h', _⟩ | ⟨g', cap', cur, h', _, hg, h1, h2, _⟩
  · simp at h'
  · simp only [Value.slice.injEq, Option.some.injEq, Addr.mk.injEq, and_true, true_and] at h'
    obtain ⟨rfl, rfl⟩ := h'
    exact ⟨h1, h2⟩
theorem OwnP.mono (h : OwnP w base g n cap l) (hb : base' ≤ base) : OwnP w base' g n cap l := by
  refine ⟨h.1, h.2.1, h.2.2.1, ?_⟩
  rcases h.2.2.2 with h' | ⟨g', cap', cur, h', h0, r⟩
  · exact .inl h'
  · exact .inr ⟨g', cap', cur, h', by omega, r⟩
theorem OwnP.cell (h : OwnP w base g n cap l) : CellsP w g 0 l := by
  intro i hi
  have hl := h.1
  have k1 := h.2.2.cellAt (i * 2) (by omega)
  have k2 := h.2.2.cellAt (i * 2 + 1) (by omega)
  rw [pairVals_key l i hi] at k1
  rw [pairVals_val l i hi] at k2
  rw [Nat.zero_add]
  exact ⟨k1, k2⟩
theorem OwnP.key (h : OwnP w base g n cap l) (i : Nat) (hi : i < l.length) : w.cell? ⟨g, i * 2, none⟩ = some (.string l[i].1) := by
  have := (h.cell i hi).1; rwa [Nat.zero_add] at this
theorem OwnP.val (h : OwnP w base g n cap l) (i : Nat) (hi : i < l.length) : w.cell? ⟨g, i * 2 + 1, none⟩ = some (.string l[i].2) := by
  have := (h.cell i hi).2; rwa [Nat.zero_add] at this
theorem OwnP.frozen (h : OwnP w base g n cap l) (i : Nat) : w.frozen? ⟨g, i, none⟩ = false := h.2.2.frozenAt i
theorem OwnP.sl (h : OwnP w base g n cap l) : SlP w (some ⟨g, 0, none⟩) n l :=
  ⟨h.1, by have := h.cases; omega, h.2.1, fun _ => ⟨g, 0, rfl, h.cell⟩⟩
theorem OwnP.grown (h : OwnP w base g n cap l) (hg : w.grownBy w' row) (hne : some g ≠ row) : OwnP w' base g n cap l :=
  ⟨h.1, h.2.1, h.2.2.kept hg (.inr hne)⟩
theorem OwnP.below (h : OwnP w base g n cap l) (hb : Below w.heap.size w w') : OwnP w' base g n cap l :=
  ⟨h.1, h.2.1, h.2.2.kept (row := none) ⟨hb.os, hb.tape, hb.output, hb.size, fun k hk _ => hb.block k hk⟩ (.inr (by simp [Value.ownBlock]))⟩
theorem mem_set_small {i : Nat} {p : Pr} (h : ∀ q ∈ l, small q) (hp : small p) : ∀ q ∈ l.set i p, small q := by
  intro q hq
  rcases List.mem_or_eq_of_mem_set hq with h1 | h1
  · exact h q h1
  · subst h1; exact hp
theorem OwnP.setKey (h : OwnP w base g n cap l) (i : Nat) (hi : i < l.length) (k : ByteArray) (hk : k.size ≤ maxLen) :
    OwnP (w.setCell ⟨g, i * 2, none⟩ (.string k)) base g n cap (l.set i (k, l[i].2)) ∧ w.grownBy (w.setCell ⟨g, i * 2, none⟩ (.string k)) (some g) := by
  have hs := h.2.2.stored (i * 2) (.string k)
  rw [pairVals_setKey l i hi] at hs
  exact ⟨⟨by simpa using h.1, mem_set_small h.2.1 ⟨hk, (h.2.1 _ (List.getElem_mem hi)).2⟩, hs.1⟩, hs.2⟩
theorem OwnP.setVal (h : OwnP w base g n cap l) (i : Nat) (hi : i < l.length) (v : ByteArray) (hv : v.size ≤ maxLen) :
    OwnP (w.setCell ⟨g, i * 2 + 1, none⟩ (.string v)) base g n cap (l.set i (l[i].1, v)) ∧ w.grownBy (w.setCell ⟨g, i * 2 + 1, none⟩ (.string v)) (some g) := by
  have hs := h.2.2.stored (i * 2 + 1) (.string v)
  rw [pairVals_setVal l i hi] at hs
  exact ⟨⟨by simpa using h.1, mem_set_small h.2.1 ⟨(h.2.1 _ (List.getElem_mem hi)).1, hv⟩, hs.1⟩, hs.2⟩
theorem OwnP.setBoth (h : OwnP w base g n cap l) (i : Nat) (hi : i < l.length) (k v : ByteArray) (hk : k.size ≤ maxLen) (hv : v.size ≤ maxLen) :
    OwnP ((w.setCell ⟨g, i * 2, none⟩ (.string k)).setCell ⟨g, i * 2 + 1, none⟩ (.string v)) base g n cap (l.set i (k, v)) ∧ w.grownBy ((w.setCell ⟨g, i * 2, none⟩ (.string k)).setCell ⟨g, i * 2 + 1, none⟩ (.string v)) (some g) := by
  have h1 := h.setKey i hi k hk
  have h2 := h1.1.setVal i (by simpa using hi) v hv
  simp only [List.getElem_set_self, List.set_set] at h2
  exact ⟨h2.1, grownBy_trans h1.2 h2.2⟩
theorem ownP_val {v' : Value} (hl : l.length = n) (hs : ∀ p ∈ l, small p) (h0 : ¬ v' = .slice none 0 0)
    (h : w'.ownsRow base 130 2 v' n (pairVals l)) : ∃ g' cap', v' = .slice (some ⟨g', 0, none⟩) n cap' ∧ OwnP w' base g' n cap' l := by
  rcases h.2 with ⟨h2, _⟩ | ⟨g', cap', cur, hv, _⟩
  · exact absurd h2 h0
  · subst hv
    exact ⟨g', cap', rfl, hl, hs, h⟩
theorem ownP_made (w : World) (base : Nat) (hb : base ≤ w.heap.size) : OwnP (w.alloc (.cells #[] 130)) base w.heap.size 0 0 [] :=
  ⟨rfl, fun s h => absurd h List.not_mem_nil, World.ownsRow_made w #[] 0 hb (Nat.zero_le _) rfl⟩
theorem cells_pairs (h : CellsP w b off l) : ∀ j v, (pairVals l)[j]? = some v → w.cell? ((⟨b, off, none⟩ : Addr).add j) = some v := by
  intro j v hj
  have hjl : j < l.length * 2 := by have := (List.getElem?_eq_some_iff.1 hj).1; rwa [pairVals_length] at this
  rw [Addr.add_lit]
  have hm : j = (j / 2) * 2 ∨ j = (j / 2) * 2 + 1 := by omega
  rcases hm with e | e
  · rw [e, pairVals_key l (j / 2) (by omega)] at hj
    rw [e, ← hj]; exact (h (j / 2) (by omega)).1
  · rw [e, pairVals_val l (j / 2) (by omega)] at hj
    rw [e, ← hj]; exact (h (j / 2) (by omega)).2
end
theorem infoP : (Try.prog.info? 130).map (fun i => (i.zero, i.size, i.bytes)) = some (some (.agg #[.string ⟨#[]⟩, .string ⟨#[]⟩]), 2, 32) := by kernel_rfl

end Go.Proofs.Ytdeaiefhegjalaa.pairs
