/- The program's places of keys, and what is got. -/
import Derived.Test.YtooiinicnkhlbaaPairA
namespace Go.Proofs.Ytooiinicnkhlbaa.pairs
open Go Go.RowKit Go.Proofs.Ytooiinicnkhlbaa.base
set_option linter.unusedVariables false
set_option linter.unusedSimpArgs false

theorem i_meth (x y : ByteArray) (w : World) : (method 246 70 (.agg #[.string x, .string y]) "loop.example/g00244/impl.key").run Try.prog w = .ok (111, .agg #[.string x, .string y]) w := by kernel_rfl
theorem nth_take_none {key : ByteArray} {l : List Pr} {k : Nat} (hn : getKey key (l.take k) = none) (hk : k ≤ l.length) (j : Nat) (hj : j < k) : (l[j]'(by omega)).1 ≠ key := by
  have := getKey_none hn j (by simp; omega)
  rwa [List.getElem_take] at this
theorem bel2 {w wr : World} (hB : Below w.heap.size w wr) (x y : Obj) : Below w.heap.size w ((wr.alloc x).alloc y) := (hB.alloc hB.size _).alloc (le_alloc _ _ hB.size) _

set_option maxRecDepth 100000 in
set_option maxHeartbeats 2000000 in
theorem place_found (b off len cap : Nat) (l : List Pr) (key : ByteArray) (w : World) (h : SlP w (some ⟨b, off, none⟩) len l) (n : Nat) (hn : n < l.length) (he : l[n].1 = key) (hno : getKey key (l.take n) = none) :
    Calls Try.prog 95 #[.slice (some ⟨b, off, none⟩) len cap, .string key] w fun e w' => e = .returned (.tuple #[.int .i64 (n : Int), .bool true]) ∧ Below w.heap.size w w' := by
  have hl := h.1
  have hm := h.2.1
  subst hl
  unfold maxLen at hm
  have hmt := i_meth
  have HE := Hid.mk' he
  clear he
  go_enter Try.func95, Try.ntmps95
  go_wp2_with fail
  go_loopw [12] (fun i wr => ∃ k : Nat, k ≤ n ∧ i = .int .i64 (k : Int) ∧ Below w.heap.size w wr) (fun i _ => l.length - (intOf i).toNat)
  case atStart => exact ⟨0, Nat.zero_le _, rfl, Below.refl _ _⟩
  case round =>
    obtain ⟨k, hk, rfl, hB⟩ := hrel
    have hlt : k < l.length := by omega
    obtain ⟨c1, c2⟩ := (h.below hB).cells k hlt
    have hki : (k : Int) < (l.length : Int) := by omega
    by_cases hkn : k = n
    · subst hkn
      have he := HE.out
      rw [he] at c1
      generalize l[k].2 = y at *
      clear hno HE he
      go_wp2_with fail
      refine (i_key (key, y) _).mono ?_
      rintro e w2 ⟨rfl, rfl⟩
      go_wp2_with fail
      go_ret2
      exact ⟨rfl, bel2 hB _ _⟩
    · have hq : (l[k].1.toList == key.toList) = false := str_ne (nth_take_none hno (by omega) k (by omega))
      have hkn2 : k + 1 ≤ n := by omega
      clear hno HE hkn
      generalize l[k] = p at *
      go_wp2_with fail
      refine (i_key p _).mono ?_
      rintro e w2 ⟨rfl, rfl⟩
      go_wp2_with fail
      go_roundw
      case rel => exact ⟨k + 1, hkn2, by go_num, bel2 hB _ _⟩
      case measure => simp [intOf]; omega

set_option maxRecDepth 100000 in
set_option maxHeartbeats 2000000 in
theorem place_none (b off len cap : Nat) (l : List Pr) (key : ByteArray) (w : World) (h : SlP w (some ⟨b, off, none⟩) len l) (hno : getKey key l = none) :
    Calls Try.prog 95 #[.slice (some ⟨b, off, none⟩) len cap, .string key] w fun e w' => e = .returned (.tuple #[.int .i64 (below key l : Int), .bool false]) ∧ Below w.heap.size w w' := by
  have hl := h.1
  have hm := h.2.1
  subst hl
  unfold maxLen at hm
  have hmt := i_meth
  obtain ⟨r, hr⟩ : ∃ r, below key l = r := ⟨_, rfl⟩
  have hne := getKey_none hno
  clear hno
  rw [hr]
  have HR := Hid.mk' hr
  clear hr
  go_enter Try.func95, Try.ntmps95
  go_wp2_with fail
  go_loopw [12] (fun i wr => ∃ k : Nat, k ≤ l.length ∧ i = .int .i64 (k : Int) ∧ Below w.heap.size w wr) (fun i _ => l.length - (intOf i).toNat)
  case atStart => exact ⟨0, Nat.zero_le _, rfl, Below.refl _ _⟩
  case round =>
    obtain ⟨k, hk, rfl, hB⟩ := hrel
    by_cases hlt : k < l.length
    · obtain ⟨c1, c2⟩ := (h.below hB).cells k hlt
      have hki : (k : Int) < (l.length : Int) := by omega
      have hq := str_ne (hne k hlt)
      clear hne
      generalize l[k] = p at *
      go_wp2_with fail
      refine (i_key p _).mono ?_
      rintro e w2 ⟨rfl, rfl⟩
      go_wp2_with fail
      go_roundw
      case rel => exact ⟨k + 1, by omega, by go_num, bel2 hB _ _⟩
      case measure => simp [intOf]; omega
    · have hB0 := hB
      clear hB
      go_wp2_with fail
      go_loopw [26] (fun i wr => ∃ k : Nat, k ≤ l.length ∧ i = .int .i64 (k : Int) ∧ k + below key (l.drop k) = r ∧ Below w.heap.size w wr) (fun i _ => l.length - (intOf i).toNat)
      case atStart => exact ⟨0, Nat.zero_le _, rfl, by rw [List.drop_zero, HR.out]; omega, hB0⟩
      case round =>
        clear hB0 hlt hk
        obtain ⟨k, hk, rfl, hr, hB⟩ := hrel
        by_cases hlt : k < l.length
        · obtain ⟨c1, c2⟩ := (h.below hB).cells k hlt
          have hki : (k : Int) < (l.length : Int) := by omega
          have hst := below_drop key l k hlt
          cases hL : ltB key l[k].1
          · have HF : Hid (k + 1 + below key (l.drop (k + 1)) = r) := by
              show _ = _
              rw [hL] at hst; simp at hst; omega
            have hl2 : Op.bytesLess l[k].1.toList key.toList = true := by rw [less_flip (hne k hlt), show Op.bytesLess key.toList l[k].1.toList = false from hL]; rfl
            clear hst hr hL hne
            generalize l[k] = p at *
            go_wp2_with fail
            refine (i_key p _).mono ?_
            rintro e w2 ⟨rfl, rfl⟩
            go_wp2_with fail
            go_roundw
            case rel => exact ⟨k + 1, by omega, by go_num, HF.out, bel2 hB _ _⟩
            case measure => simp [intOf]; omega
          · have HF : Hid (k = r) := by
              show _ = _
              rw [hL] at hst; simp at hst; omega
            have hl2 : Op.bytesLess l[k].1.toList key.toList = false := by rw [less_flip (hne k hlt), show Op.bytesLess key.toList l[k].1.toList = true from hL]; rfl
            have hq := str_ne (hne k hlt)
            clear hst hr hL hne
            generalize l[k] = p at *
            go_wp2_with fail
            refine (i_key p _).mono ?_
            rintro e w2 ⟨rfl, rfl⟩
            go_wp2_with fail
            obtain rfl := HF.out
            go_ret2
            exact ⟨rfl, bel2 hB _ _⟩
        · have HF : Hid (l.length = r) := by
            show _ = _
            rw [List.drop_eq_nil_of_le (by omega)] at hr; simp [below] at hr; omega
          clear hr hne
          go_wp2_with fail
          obtain rfl := HF.out
          go_ret2
          exact ⟨rfl, hB⟩

theorem getKey_place {key : ByteArray} {l : List Pr} {v : ByteArray} (h : getKey key l = some v) : ∃ n, ∃ hn : n < l.length, l[n].1 = key ∧ l[n].2 = v ∧ getKey key (l.take n) = none := by
  induction l with
  | nil => cases h
  | cons p l ih =>
    rw [getKey] at h
    by_cases hp : p.1 = key
    · rw [if_pos hp] at h
      exact ⟨0, by simp, hp, by simpa using h, rfl⟩
    · rw [if_neg hp] at h
      obtain ⟨n, hn, h1, h2, h3⟩ := ih h
      refine ⟨n + 1, by simp; omega, by simpa using h1, by simpa using h2, ?_⟩
      rw [List.take_succ_cons, getKey, if_neg hp]
      exact h3

set_option maxRecDepth 100000 in
set_option maxHeartbeats 1000000 in
theorem impl_getKey (b off len cap : Nat) (l : List Pr) (key : ByteArray) (w : World) (h : SlP w (some ⟨b, off, none⟩) len l) :
    Calls Try.prog 92 #[.slice (some ⟨b, off, none⟩) len cap, .string key] w fun e w' => e = .returned (getRet (getKey key l)) ∧ Below w.heap.size w w' := by
  cases hg : getKey key l with
  | none =>
    have HP := Hid.mk' (place_none b off len cap l key w h hg)
    clear hg
    go_enter Try.func92, Try.ntmps92
    go_wp2_with fail
    refine HP.out.mono ?_
    rintro e w2 ⟨rfl, hb⟩
    go_wp2_with fail
    go_ret2
    exact ⟨rfl, hb⟩
  | some v =>
    obtain ⟨n, hn, h1, h2, h3⟩ := getKey_place hg
    have HP := Hid.mk' (place_found b off len cap l key w h n hn h1 h3)
    have hl := h.1
    have hm := h.2.1
    unfold maxLen at hm
    subst hl h2
    clear hg h1 h3
    have hni : (n : Int) < (l.length : Int) := by omega
    go_enter Try.func92, Try.ntmps92
    go_wp2_with fail
    refine HP.out.mono ?_
    rintro e w2 ⟨rfl, hb⟩
    have c2 := ((h.below hb).cells n hn).2
    go_wp2_with fail
    go_ret2
    exact ⟨rfl, hb⟩

end Go.Proofs.Ytooiinicnkhlbaa.pairs
