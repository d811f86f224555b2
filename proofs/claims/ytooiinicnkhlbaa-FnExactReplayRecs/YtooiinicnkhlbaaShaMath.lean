/- Plain mathematics of SHA-256, on natural numbers below 2 to the power of 32. -/
import Derived.Test.YtooiinicnkhlbaaApp
import Derived.Test.YtooiinicnkhlbaaPadMath
namespace Go.Proofs.Ytooiinicnkhlbaa.sha
open Go.RowKit Go.Proofs.Ytooiinicnkhlbaa.base Go.Proofs.Ytooiinicnkhlbaa.padmath
set_option linter.unusedVariables false

def rotr (n x : Nat) : Nat := (x / 2 ^ n) ||| (x * 2 ^ (32 - n) % 4294967296)
def ssig0 (x : Nat) : Nat := rotr 7 x ^^^ rotr 18 x ^^^ x / 8
def ssig1 (x : Nat) : Nat := rotr 17 x ^^^ rotr 19 x ^^^ x / 1024
def bsig0 (x : Nat) : Nat := rotr 2 x ^^^ rotr 13 x ^^^ rotr 22 x
def bsig1 (x : Nat) : Nat := rotr 6 x ^^^ rotr 11 x ^^^ rotr 25 x
def ch (e f g : Nat) : Nat := (e &&& f) ^^^ ((4294967295 ^^^ e) &&& g)
def maj (a b c : Nat) : Nat := (a &&& b) ^^^ (a &&& c) ^^^ (b &&& c)
theorem or32 {a b : Nat} (ha : a < 4294967296) (hb : b < 4294967296) : a ||| b < 4294967296 := Nat.or_lt_two_pow (n := 32) ha hb
theorem xor32 {a b : Nat} (ha : a < 4294967296) (hb : b < 4294967296) : a ^^^ b < 4294967296 := Nat.xor_lt_two_pow (n := 32) ha hb
theorem and32 {a b : Nat} (ha : a < 4294967296) : a &&& b < 4294967296 := Nat.lt_of_le_of_lt Nat.and_le_left ha
theorem and32' {a b : Nat} (hb : b < 4294967296) : a &&& b < 4294967296 := Nat.lt_of_le_of_lt Nat.and_le_right hb
theorem div32 {x : Nat} (n : Nat) (h : x < 4294967296) : x / n < 4294967296 := Nat.lt_of_le_of_lt (Nat.div_le_self _ _) h
theorem rotr_lt (n x : Nat) (h : x < 4294967296) : rotr n x < 4294967296 := or32 (div32 _ h) (Nat.mod_lt _ (by omega))
theorem ssig0_lt (x : Nat) (h : x < 4294967296) : ssig0 x < 4294967296 := xor32 (xor32 (rotr_lt _ _ h) (rotr_lt _ _ h)) (div32 _ h)
theorem ssig1_lt (x : Nat) (h : x < 4294967296) : ssig1 x < 4294967296 := xor32 (xor32 (rotr_lt _ _ h) (rotr_lt _ _ h)) (div32 _ h)
theorem bsig0_lt (x : Nat) (h : x < 4294967296) : bsig0 x < 4294967296 := xor32 (xor32 (rotr_lt _ _ h) (rotr_lt _ _ h)) (rotr_lt _ _ h)
theorem bsig1_lt (x : Nat) (h : x < 4294967296) : bsig1 x < 4294967296 := xor32 (xor32 (rotr_lt _ _ h) (rotr_lt _ _ h)) (rotr_lt _ _ h)
theorem ch_lt (e f g : Nat) (h : e < 4294967296) (hg : g < 4294967296) : ch e f g < 4294967296 := xor32 (and32 h) (and32' hg)
theorem maj_lt (a b c : Nat) (h : a < 4294967296) (hb : b < 4294967296) : maj a b c < 4294967296 := xor32 (xor32 (and32 h) (and32 h)) (and32 hb)

def be32 (bs : List UInt8) (i : Nat) : Nat := (bs.getD (4 * i) 0).toNat * 16777216 + (bs.getD (4 * i + 1) 0).toNat * 65536 + (bs.getD (4 * i + 2) 0).toNat * 256 + (bs.getD (4 * i + 3) 0).toNat
theorem be32_lt (bs : List UInt8) (i : Nat) : be32 bs i < 4294967296 := by
  have h1 := (bs.getD (4 * i) 0).toNat_lt
  have h2 := (bs.getD (4 * i + 1) 0).toNat_lt
  have h3 := (bs.getD (4 * i + 2) 0).toNat_lt
  have h4 := (bs.getD (4 * i + 3) 0).toNat_lt
  unfold be32; omega
/-- the word behind k words -/
def nextWord (bs : List UInt8) (w : List Nat) (k : Nat) : Nat :=
  if k < 16 then be32 bs k else (w.getD (k - 16) 0 + ssig0 (w.getD (k - 15) 0) + w.getD (k - 7) 0 + ssig1 (w.getD (k - 2) 0)) % 4294967296
def ws (bs : List UInt8) : Nat → List Nat
  | 0 => []
  | k + 1 => ws bs k ++ [nextWord bs (ws bs k) k]
theorem ws_length (bs : List UInt8) (k : Nat) : (ws bs k).length = k := by
  induction k with
  | zero => rfl
  | succ k ih => simp [ws, ih]
theorem nextWord_lt (bs : List UInt8) (w : List Nat) (k : Nat) : nextWord bs w k < 4294967296 := by
  unfold nextWord
  split
  · exact be32_lt _ _
  · exact Nat.mod_lt _ (by omega)
theorem ws_lt (bs : List UInt8) (k : Nat) : ∀ x ∈ ws bs k, x < 4294967296 := by
  induction k with
  | zero => intro x h; exact absurd h List.not_mem_nil
  | succ k ih =>
    intro x h
    rcases List.mem_append.1 h with h | h
    · exact ih x h
    · simp at h; subst h; exact nextWord_lt _ _ _
theorem getD_lt {l : List Nat} (h : ∀ x ∈ l, x < 4294967296) (i : Nat) : l.getD i 0 < 4294967296 := by
  rw [List.getD_eq_getElem?_getD]
  cases e : l[i]? with
  | none => simp
  | some x => exact h x (List.mem_of_getElem? e)

/-- one round over the state a .. h -/
def rnd (s : List Nat) (kw : Nat) : List Nat :=
  let t1 := s.getD 7 0 + bsig1 (s.getD 4 0) + ch (s.getD 4 0) (s.getD 5 0) (s.getD 6 0) + kw
  let t2 := bsig0 (s.getD 0 0) + maj (s.getD 0 0) (s.getD 1 0) (s.getD 2 0)
  [(t1 + t2) % 4294967296, s.getD 0 0, s.getD 1 0, s.getD 2 0, (s.getD 3 0 + t1) % 4294967296, s.getD 4 0, s.getD 5 0, s.getD 6 0]
def rounds (ks w s : List Nat) : Nat → List Nat
  | 0 => s
  | i + 1 => rnd (rounds ks w s i) (ks.getD i 0 + w.getD i 0)
def addAll (a b : List Nat) : List Nat := (List.range 8).map fun i => (a.getD i 0 + b.getD i 0) % 4294967296
def block (ks h : List Nat) (bs : List UInt8) : List Nat := addAll (rounds ks (ws bs 64) h 64) h
def K64 : List Nat := [0x428a2f98, 0x71374491, 0xb5c0fbcf, 0xe9b5dba5, 0x3956c25b, 0x59f111f1, 0x923f82a4, 0xab1c5ed5,
  0xd807aa98, 0x12835b01, 0x243185be, 0x550c7dc3, 0x72be5d74, 0x80deb1fe, 0x9bdc06a7, 0xc19bf174,
  0xe49b69c1, 0xefbe4786, 0x0fc19dc6, 0x240ca1cc, 0x2de92c6f, 0x4a7484aa, 0x5cb0a9dc, 0x76f988da,
  0x983e5152, 0xa831c66d, 0xb00327c8, 0xbf597fc7, 0xc6e00bf3, 0xd5a79147, 0x06ca6351, 0x14292967,
  0x27b70a85, 0x2e1b2138, 0x4d2c6dfc, 0x53380d13, 0x650a7354, 0x766a0abb, 0x81c2c92e, 0x92722c85,
  0xa2bfe8a1, 0xa81a664b, 0xc24b8b70, 0xc76c51a3, 0xd192e819, 0xd6990624, 0xf40e3585, 0x106aa070,
  0x19a4c116, 0x1e376c08, 0x2748774c, 0x34b0bcb5, 0x391c0cb3, 0x4ed8aa4a, 0x5b9cca4f, 0x682e6ff3,
  0x748f82ee, 0x78a5636f, 0x84c87814, 0x8cc70208, 0x90befffa, 0xa4506ceb, 0xbef9a3f7, 0xc67178f2]
def H8 : List Nat := [0x6a09e667, 0xbb67ae85, 0x3c6ef372, 0xa54ff53a, 0x510e527f, 0x9b05688c, 0x1f83d9ab, 0x5be0cd19]
def hashTo (p : List UInt8) : Nat → List Nat
  | 0 => H8
  | i + 1 => block K64 (hashTo p i) ((p.drop (64 * i)).take 64)
def word4 (x : Nat) : List UInt8 := [UInt8.ofNat (x / 16777216), UInt8.ofNat (x / 65536), UInt8.ofNat (x / 256), UInt8.ofNat x]
def digest (bs : List UInt8) : List UInt8 := ((hashTo (padded bs) ((padded bs).length / 64)).map word4).flatten

theorem addAll_length (a b : List Nat) : (addAll a b).length = 8 := by simp [addAll]
theorem addAll_lt (a b : List Nat) : ∀ x ∈ addAll a b, x < 4294967296 := by
  intro x hx
  obtain ⟨i, _, rfl⟩ := List.mem_map.1 hx
  exact Nat.mod_lt _ (by omega)
theorem hashTo_length (p : List UInt8) (i : Nat) : (hashTo p i).length = 8 := by
  cases i with
  | zero => rfl
  | succ i => exact addAll_length _ _
theorem hashTo_lt (p : List UInt8) (i : Nat) : ∀ x ∈ hashTo p i, x < 4294967296 := by
  cases i with
  | zero => intro x hx; simp only [hashTo, H8, List.mem_cons, List.not_mem_nil, or_false] at hx; omega
  | succ i => exact addAll_lt _ _
theorem rnd_length (s : List Nat) (kw : Nat) : (rnd s kw).length = 8 := rfl
theorem rnd_lt (s : List Nat) (kw : Nat) (h : ∀ x ∈ s, x < 4294967296) : ∀ x ∈ rnd s kw, x < 4294967296 := by
  intro x hx
  have g := fun i => getD_lt h i
  simp only [rnd, List.mem_cons, List.not_mem_nil, or_false] at hx
  rcases hx with rfl | rfl | rfl | rfl | rfl | rfl | rfl | rfl
  · exact Nat.mod_lt _ (by omega)
  · exact g 0
  · exact g 1
  · exact g 2
  · exact Nat.mod_lt _ (by omega)
  · exact g 4
  · exact g 5
  · exact g 6
theorem rounds_length (ks w s : List Nat) (i : Nat) (h : s.length = 8) : (rounds ks w s i).length = 8 := by
  cases i with
  | zero => exact h
  | succ i => rfl
theorem rounds_lt (ks w s : List Nat) (i : Nat) (h : ∀ x ∈ s, x < 4294967296) : ∀ x ∈ rounds ks w s i, x < 4294967296 := by
  induction i with
  | zero => exact h
  | succ i ih => exact rnd_lt _ _ ih
theorem digest_length (bs : List UInt8) : (digest bs).length = 32 := by
  unfold digest
  have h := hashTo_length (padded bs) ((padded bs).length / 64)
  generalize hashTo (padded bs) ((padded bs).length / 64) = l at *
  match l, h with
  | [a, b, c, d, e, f, g, h], _ => rfl

end Go.Proofs.Ytooiinicnkhlbaa.sha
