/- The specification's shards of orders. The specification's orders as bytes. Rows of numbers that a call makes. The specification's words of a block. -/
import Derived.Test.YtooiinicnkhlbaaDoorBund8ak
import Derived.Test.YtooiinicnkhlbaaDoorBund8aa
import Derived.Deep.RegionHeldLaw
import Derived.Test.YtooiinicnkhlbaaDoorBund8af
namespace Go.Proofs.YtooiinicnkhlbaaDoor.ords
open Go Go.RowKit Go.Proofs.YtooiinicnkhlbaaDoor.base Go.Proofs.YtooiinicnkhlbaaDoor.pairs
set_option linter.unusedVariables false
set_option linter.unusedSimpArgs false



theorem putI_length (zs : List Int) (n : Int) : (putI zs n).length ≤ zs.length + 1 := by
  unfold putI
  split
  · omega
  · have h1 : ∀ l : List Int, (l.filter fun x => decide (x < n)).length + (l.filter fun x => decide (n < x)).length ≤ l.length := by
      intro l
      induction l with
      | nil => simp
      | cons x l ih =>
        simp only [List.filter_cons]
        by_cases a : x < n
        · have b : ¬ n < x := by omega
          simp [a, b]; omega
        · by_cases b : n < x
          · simp [a, b]; omega
          · simp [a, b]; omega
    have := h1 zs
    simp only [List.length_append, List.length_cons]
    omega
end Go.Proofs.YtooiinicnkhlbaaDoor.ords

namespace Go.Proofs.YtooiinicnkhlbaaDoor.ords
open Go Go.RowKit Go.Proofs.YtooiinicnkhlbaaDoor.base Go.Proofs.YtooiinicnkhlbaaDoor.pairs Go.Proofs.YtooiinicnkhlbaaDoor.putnum Go.Proofs.YtooiinicnkhlbaaDoor.puttext Go.Proofs.YtooiinicnkhlbaaDoor.getnum Go.Proofs.YtooiinicnkhlbaaDoor.gettext
set_option linter.unusedVariables false
set_option linter.unusedSimpArgs false

theorem odBytes_length {o : Od} (h : odOk o = true) : (odBytes o).length ≤ 47 := by
  obtain ⟨_, _, h3, h4⟩ := (odOk_iff o).1 h
  have h5 := keyOk_size h3
  have h6 := textBytes_length o.2.1
  have h7 := textBytes_length o.2.2
  have h8 := numBytes_length o.1
  simp [odBytes]
  omega
theorem odsBytes_length {l : List Od} (h : ∀ o ∈ l, odOk o = true) : (odsBytes l).length ≤ 47 * l.length := by
  induction l with
  | nil => simp [odsBytes]
  | cons o l ih =>
    rw [odsBytes_cons, List.length_append, List.length_cons]
    have := odBytes_length (h o List.mem_cons_self)
    have := ih (fun x hx => h x (List.mem_cons_of_mem _ hx))
    omega
theorem putOps_length (l : List Od) : (putOps l).length ≤ 400 := by
  unfold putOps
  split
  · next h =>
    obtain ⟨⟨h1, _⟩, _, h3⟩ := (opsOk_iff l).1 h
    have := odsBytes_length h1
    have := numBytes_length (l.length : Int)
    rw [List.length_append]; omega
  · simp
theorem shards_length (n : Int) (l : List Od) : (shardsOf n l).length ≤ l.length := by
  have h : ∀ (l : List Od) (u : List Int), (l.foldl (fun u o => putI u (shardOf o.2.1 n)) u).length ≤ u.length + l.length := by
    intro l
    induction l with
    | nil => intro u; simp
    | cons o l ih =>
      intro u
      have := ih (putI u (shardOf o.2.1 n))
      have := putI_length u (shardOf o.2.1 n)
      simp only [List.foldl_cons, List.length_cons]; omega
  simpa [shardsOf] using h l []
set_option maxRecDepth 100000 in
set_option maxHeartbeats 4000000 in
theorem spec_putOps (b off len cap : Nat) (l : List Od) (w : World) (h : SlO w (some ⟨b, off, none⟩) len l) (hks : ∀ p ∈ l, p.2.1.size ≤ 1099511627776) :
    Calls Tryd.prog 57 #[.slice (some ⟨b, off, none⟩) len cap] w fun e w' =>
      ∃ g' n' cap', e = .returned (.slice (some ⟨g', 0, none⟩) n' cap') ∧ Own w' w.heap.size g' n' cap' (putOps l) ∧ Below w.heap.size w w' := by
  have HOK := Hid.mk' (spec_opsOk b off len cap l w h hks)
  have hl := h.1
  have hm := h.2.1
  unfold maxLen at hm
  subst hl
  cases hok : opsOk l
  · rw [hok] at HOK
    have HP : Hid (putOps l = []) := opsOk_put l hok
    clear hok
    go_enter Tryd.func57, Tryd.ntmps57
    go_wp2_with fail
    refine HOK.out.mono ?_
    rintro e w1 ⟨rfl, hb1⟩
    have hO1 := own_made w1 w.heap.size hb1.size
    go_wp2_with fail
    go_ret
    exact ⟨_, _, _, rfl, by rw [HP.out]; exact hO1, hb1.alloc hb1.size _⟩
  · rw [hok] at HOK
    have HP : Hid (putOps l = numBytes (l.length : Int) ++ odsBytes l) := by show _ = _; unfold putOps; rw [if_pos hok]
    obtain ⟨⟨hall, _⟩, hl1, hl8⟩ := (opsOk_iff l).1 hok
    clear hok
    have hnb := numBytes_length (l.length : Int)
    go_enter Tryd.func57, Tryd.ntmps57
    go_wp2_with fail
    refine HOK.out.mono ?_
    rintro e w1 ⟨rfl, hb1⟩
    have hO1 := own_made w1 w1.heap.size (Nat.le_refl _)
    have hb1' : Below w.heap.size w (w1.alloc (.cells #[] 5)) := hb1.alloc hb1.size _
    have HPN := Hid.mk' (spec_put w1.heap.size 0 0 0 [] (l.length : Int) _ hO1.sl (WalkArith.wf_i64 (by omega)) (by omega))
    clear HOK hO1
    go_wp2_with fail
    refine HPN.out.mono ?_
    rintro e w2 ⟨g2, n2, cp2, rfl, hO2, hb2⟩
    have hB2 : Below w.heap.size w w2 := hb1'.trans (hb2.mono hb1'.size)
    have hO2' := hO2.mono (base' := w.heap.size) (by have := hb1'.size; omega)
    clear HPN hO2 hb2 hb1 hb1'
    have hn2 := hO2'.1
    go_wp2_with fail
    go_loopw [3, 4] (fun v i wr => ∃ (k g n cp : Nat), k ≤ l.length ∧ n ≤ 5 + 47 * k ∧ i = .int .i64 (k : Int) ∧ v = .slice (some ⟨g, 0, none⟩) n cp ∧ Own wr w.heap.size g n cp (numBytes (l.length : Int) ++ odsBytes (l.take k)) ∧ Below w.heap.size w wr) (fun _ i _ => l.length - (intOf i).toNat)
    case atStart => exact ⟨0, g2, n2, cp2, Nat.zero_le _, by simp at hn2; omega, rfl, rfl, by simpa [odsBytes] using hO2', hB2⟩
    case round =>
      clear hO2' hB2 hn2
      obtain ⟨k, g, n, cp, hk, hn, rfl, rfl, hO, hB⟩ := hrel
      by_cases hlt : k < l.length
      · obtain ⟨c0, c1, c2⟩ := (h.below hB).cells k hlt
        have hki : (k : Int) < (l.length : Int) := by omega
        have hpk := hall _ (List.getElem_mem hlt)
        have HT : Hid (numBytes (l.length : Int) ++ odsBytes (l.take (k + 1)) = (numBytes (l.length : Int) ++ odsBytes (l.take k)) ++ odBytes l[k]) := by show _ = _; rw [odsBytes_take l k hlt, List.append_assoc]
        have hol := odBytes_length hpk
        obtain ⟨hz, _, hkey, hval⟩ := (odOk_iff _).1 hpk
        have hks' := keyOk_size hkey
        have hzf : (Lit.int .i64 l[k].1).wf = true := WalkArith.wf_i64 (by omega)
        have hOd : Own wr.drew w.heap.size g n cp (numBytes (l.length : Int) ++ odsBytes (l.take k)) := hO
        generalize l[k] = p at *
        generalize numBytes (l.length : Int) ++ odsBytes (l.take k) = B at *
        have hnz := numBytes_length p.1
        have htk := textBytes_length p.2.1
        go_wp2_with fail
        go_region_held3 (fun w' => w'.cell? ⟨b, off + k * 3, none⟩ = some (.int .i64 p.1) ∧ w'.cell? ⟨b, off + k * 3 + 1, none⟩ = some (.string p.2.1) ∧ w'.cell? ⟨b, off + k * 3 + 2, none⟩ = some (.string p.2.2)) (first | (exact keepB3 hb7 (by assumption)) | (exact keepB3 hb6 (by assumption)) | (exact keepB3 hb5 (by assumption)) | (go_keep)) (first | (go_at_call 83; have h9 := hb6; refine (puttext.spec_text g6 0 n6 cp6 (B ++ numBytes p.1 ++ textBytes p.2.1) p.2.2 _ hO6.sl (by have := hO6.1; have := hO.1; simp at *; omega) (by omega)).mono ?_; rintro e w7 ⟨g7, n7, cp7, rfl, hO7, hb7⟩) | (go_at_call 83; have h9 := hb5; refine (puttext.spec_text g5 0 n5 cp5 (B ++ numBytes p.1) p.2.1 _ hO5.sl (by have := hO5.1; have := hO.1; simp at *; omega) (by omega)).mono ?_; rintro e w6 ⟨g6, n6, cp6, rfl, hO6, hb6⟩) | (go_at_call 56; refine (spec_put g 0 n cp B p.1 _ hOd.sl hzf (by omega)).mono ?_; rintro e w5 ⟨g5, n5, cp5, rfl, hO5, hb5⟩))
        all_goals
          have hB5 : Below w.heap.size w w5 := hB.drew.trans (hb5.mono hB.size)
          have hB6 : Below w.heap.size w w6 := hB5.trans (hb6.mono hB5.size)
          have hB7 : Below w.heap.size w w7 := hB6.trans (hb7.mono hB6.size)
          have hO7' := hO7.mono (base' := w.heap.size) hB6.size
          have hn7 : n7 ≤ 5 + 47 * (k + 1) := by
            have e1 := hO7.1
            have e2 := hO.1
            simp [odBytes] at e1 hol
            omega
          have e : B ++ numBytes p.1 ++ textBytes p.2.1 ++ textBytes p.2.2 = B ++ odBytes p := by simp [odBytes]
          rw [e] at hO7'
          have HO7 := Hid.mk' hO7'
          clear hb5 hb6 hb7 hO5 hO6 hO7 hO7' hO hOd hB hB5 hB6 c0 c1 c2 e
          go_wp2_with fail
          go_roundw
          case rel => exact ⟨k + 1, g7, n7, cp7, by omega, hn7, by go_num, rfl, by rw [HT.out]; exact HO7.out, hB7⟩
          case measure => simp [intOf]; omega
      · have HE : Hid (l.take k = l) := List.take_of_length_le (by omega)
        go_wp2_with fail
        go_ret
        rw [HE.out, ← HP.out] at hO
        exact ⟨g, n, cp, rfl, hO, hB⟩
end Go.Proofs.YtooiinicnkhlbaaDoor.ords

namespace Go.Proofs.YtooiinicnkhlbaaDoor.base
open Go.RowKit
set_option linter.unusedVariables false

theorem infoInt : (Tryd.prog.info? 3).map (fun i => (i.zero, i.size, i.bytes)) = some (some (.int .i64 0), 1, 8) := by kernel_rfl
def natVals (zs : List Nat) : List Value := zs.map fun (z : Nat) => .int .i64 (z : Int)
theorem natVals_length (zs : List Nat) : (natVals zs).length = zs.length := by simp [natVals]
theorem natVals_snoc (zs : List Nat) (z : Nat) : natVals (zs ++ [z]) = natVals zs ++ [.int .i64 (z : Int)] := by simp [natVals]
theorem natVals_set (zs : List Nat) (k z : Nat) : (natVals zs).set k (.int .i64 (z : Int)) = natVals (zs.set k z) := by simp [natVals]
theorem natVals_oneCell (zs : List Nat) : ∀ v ∈ natVals zs, v.oneCell' = true := by
  intro v hv; obtain ⟨_, _, rfl⟩ := List.mem_map.1 hv; rfl
/-- block g is a row of numbers of the call's own -/
def OwnN (w : World) (base g n cap : Nat) (zs : List Nat) : Prop := zs.length = n ∧ w.ownsRow base 3 1 (.slice (some ⟨g, 0, none⟩) n cap) n (natVals zs)
section
variable {w w' : World} {base base' g n cap : Nat} {zs : List Nat} {row : Option Nat}
theorem OwnN.lt (h : OwnN w base g n cap zs) : base ≤ g ∧ g < w.heap.size := h.2.lt g rfl
theorem OwnN.mono (h : OwnN w base g n cap zs) (hb : base' ≤ base) : OwnN w base' g n cap zs := by
  refine ⟨h.1, h.2.1, ?_⟩
  rcases h.2.2 with h' | ⟨g', cap', cur, h', h0, r⟩
  · exact .inl h'
  · exact .inr ⟨g', cap', cur, h', by omega, r⟩
theorem OwnN.at (h : OwnN w base g n cap zs) (i : Nat) (hi : i < n) : w.cell? ⟨g, i, none⟩ = some (.int .i64 (zs.getD i 0 : Nat)) := by
  have hl := h.1
  rw [h.2.cellAt i (by omega)]
  simp [natVals, List.getD, show i < zs.length by omega]
theorem OwnN.frozen (h : OwnN w base g n cap zs) (i : Nat) : w.frozen? ⟨g, i, none⟩ = false := h.2.frozenAt i
theorem OwnN.grown (h : OwnN w base g n cap zs) (hg : w.grownBy w' row) (hne : some g ≠ row) : OwnN w' base g n cap zs := ⟨h.1, h.2.kept hg (.inr hne)⟩
theorem OwnN.below (h : OwnN w base g n cap zs) (hb : Below w.heap.size w w') : OwnN w' base g n cap zs :=
  ⟨h.1, h.2.kept (row := none) ⟨hb.os, hb.tape, hb.output, hb.size, fun k hk _ => hb.block k hk⟩ (.inr (by simp [Value.ownBlock]))⟩
theorem OwnN.cells (h : OwnN w base g n cap zs) : ∀ j v, (natVals zs)[j]? = some v → w.cell? ((⟨g, 0, none⟩ : Addr).add j) = some v := h.2.cells rfl
theorem ownN_made (w : World) (base : Nat) (hb : base ≤ w.heap.size) : OwnN (w.alloc (.cells #[] 3)) base w.heap.size 0 0 [] :=
  ⟨rfl, World.ownsRow_made w #[] 0 hb (Nat.zero_le _) rfl⟩
theorem ownN_lit (w : World) (base : Nat) (zs : List Nat) (cs : Array Value) (hb : base ≤ w.heap.size) (hc : cs.toList = natVals zs) (hl : zs.length ≤ maxLen) : OwnN (w.alloc (.cells cs 3)) base w.heap.size zs.length zs.length zs := by
  have hs : cs.size = zs.length * 1 := by rw [← Array.length_toList, hc, natVals_length, Nat.mul_one]
  have := World.ownsRow_lit (base := base) (e := 3) (size := 1) w cs zs.length hb hl hs
  rw [hc] at this
  exact ⟨rfl, this⟩
theorem ownN_val {v' : Value} (hl : zs.length = n) (h0 : ¬ v' = .slice none 0 0) (h : w'.ownsRow base 3 1 v' n (natVals zs)) :
    ∃ g' cap', v' = .slice (some ⟨g', 0, none⟩) n cap' ∧ OwnN w' base g' n cap' zs := by
  rcases h.2 with ⟨h2, _⟩ | ⟨g', cap', cur, hv, _⟩
  · exact absurd h2 h0
  · subst hv
    exact ⟨g', cap', rfl, hl, h⟩
theorem ownN_set (h : OwnN w base g n cap zs) (k z : Nat) :
    OwnN (w.setCell ⟨g, k, none⟩ (.int .i64 (z : Int))) base g n cap (zs.set k z) ∧ w.grownBy (w.setCell ⟨g, k, none⟩ (.int .i64 (z : Int))) (some g) := by
  have hs := h.2.stored k (.int .i64 (z : Int))
  rw [natVals_set] at hs
  exact ⟨⟨by simpa using h.1, hs.1⟩, hs.2⟩
end
end Go.Proofs.YtooiinicnkhlbaaDoor.base

namespace Go.Proofs.YtooiinicnkhlbaaDoor.sha
open Go.RowKit Go.Proofs.YtooiinicnkhlbaaDoor.base Go.Proofs.YtooiinicnkhlbaaDoor.padmath
set_option linter.unusedVariables false
set_option linter.unusedSimpArgs false

theorem i64_or_nat (a b : Nat) (ha : a < 9223372036854775808) (hb : b < 9223372036854775808) : bits .or .i64 (a : Int) (b : Int) = ((a ||| b : Nat) : Int) :=
  (bits_nat .i64 63 (by decide) wraps_i64 a b (by omega) (by omega)).2
theorem i64_and_nat (a b : Nat) (ha : a < 9223372036854775808) (hb : b < 9223372036854775808) : bits .and .i64 (a : Int) (b : Int) = ((a &&& b : Nat) : Int) :=
  (bits_nat .i64 63 (by decide) wraps_i64 a b (by omega) (by omega)).1
theorem pow_bd (n : Nat) (h : 2 ≤ n) : 2 ^ (32 - n) ≤ 1073741824 := Nat.le_trans (Nat.pow_le_pow_right (n := 2) (by omega) (show 32 - n ≤ 30 by omega)) (by decide)
theorem turn_val (x n : Nat) (hx : x < 4294967296) (hn : 2 ≤ n) (hn2 : n ≤ 31) :
    bits .and .i64 (bits .or .i64 ((x : Int) / 2 ^ n) (wrap64 ((x : Int) * 2 ^ (32 - n)))) 4294967295 = (rotr n x : Int) := by
  have hp := pow_bd n hn
  have h1 : x * 2 ^ (32 - n) ≤ 4294967295 * 1073741824 := Nat.mul_le_mul (by omega) hp
  have e1 : (x : Int) / 2 ^ n = ((x / 2 ^ n : Nat) : Int) := by rw [Int.natCast_ediv, Int.natCast_pow]; rfl
  have e2 : (x : Int) * 2 ^ (32 - n) = ((x * 2 ^ (32 - n) : Nat) : Int) := by rw [Int.natCast_mul, Int.natCast_pow]; rfl
  have hd := div32 (2 ^ n) hx
  rw [e1, e2, IntWalk.wrap64_in _ (by omega), i64_or_nat _ _ (by omega) (by omega), i64_mask32 _ (by omega) ?_]
  · unfold rotr
    have e3 : (x / 2 ^ n ||| x * 2 ^ (32 - n)) % 4294967296 = x / 2 ^ n % 4294967296 ||| x * 2 ^ (32 - n) % 4294967296 := Nat.or_mod_two_pow (n := 32)
    have e4 : x / 2 ^ n % 4294967296 = x / 2 ^ n := Nat.mod_eq_of_lt hd
    rw [e4] at e3
    omega
  · have : x / 2 ^ n ||| x * 2 ^ (32 - n) < 2 ^ 63 := Nat.or_lt_two_pow (by omega) (by omega)
    omega

set_option maxHeartbeats 400000 in
theorem spec_turn (x n : Nat) (w : World) (hx : x < 4294967296) (hn : 2 ≤ n) (hn2 : n ≤ 31) :
    Calls Tryd.prog 104 #[.int .i64 (x : Int), .int .i64 (n : Int)] w fun e w' => e = .returned (.int .i64 (rotr n x : Int)) ∧ w' = w := by
  have hv := turn_val x n hx hn hn2
  have HV := Hid.mk' hv
  clear hv
  go_enter Tryd.func104, Tryd.ntmps104
  go_wp2
  go_ret
  exact ⟨ret_int HV.out, rfl⟩

theorem spec_turnI (x n : Nat) (N : Int) (w : World) (hN : Hid (N = (n : Int))) (hx : x < 4294967296) (hn : 2 ≤ n) (hn2 : n ≤ 31) :
    Calls Tryd.prog 104 #[.int .i64 (x : Int), .int .i64 N] w fun e w' => e = .returned (.int .i64 (rotr n x : Int)) ∧ w' = w := by
  have e := hN.out
  subst e
  exact spec_turn x n w hx hn hn2
theorem xor3_nat (a b c : Nat) (ha : a < 4294967296) (hb : b < 4294967296) (hc : c < 4294967296) : bits .xor .i64 (bits .xor .i64 (a : Int) (b : Int)) (c : Int) = ((a ^^^ b ^^^ c : Nat) : Int) := by
  rw [i64_xor_nat a b ha hb, i64_xor_nat _ _ (xor32 ha hb) hc]
theorem sig0_val (x : Nat) (h : x < 4294967296) : bits .xor .i64 (bits .xor .i64 (rotr 7 x : Int) (rotr 18 x : Int)) ((x : Int) / 8) = (ssig0 x : Int) := by
  rw [show (x : Int) / 8 = ((x / 8 : Nat) : Int) by omega, xor3_nat _ _ _ (rotr_lt _ _ h) (rotr_lt _ _ h) (div32 _ h)]; rfl
theorem sig1_val (x : Nat) (h : x < 4294967296) : bits .xor .i64 (bits .xor .i64 (rotr 17 x : Int) (rotr 19 x : Int)) ((x : Int) / 1024) = (ssig1 x : Int) := by
  rw [show (x : Int) / 1024 = ((x / 1024 : Nat) : Int) by omega, xor3_nat _ _ _ (rotr_lt _ _ h) (rotr_lt _ _ h) (div32 _ h)]; rfl
theorem next_val (a s0 b s1 : Nat) (ha : a < 4294967296) (h0 : s0 < 4294967296) (hb : b < 4294967296) (h1 : s1 < 4294967296) :
    bits .and .i64 (IntKind.i64.wrap (IntKind.i64.wrap (IntKind.i64.wrap ((a : Int) + (s0 : Int)) + (b : Int)) + (s1 : Int))) 4294967295 = (((a + s0 + b + s1) % 4294967296 : Nat) : Int) := by
  rw [wraps_i64 ((a : Int) + (s0 : Int)) (by omega) (by omega), wraps_i64 ((a : Int) + (s0 : Int) + (b : Int)) (by omega) (by omega), wraps_i64 ((a : Int) + (s0 : Int) + (b : Int) + (s1 : Int)) (by omega) (by omega), i64_mask32 _ (by omega) (by omega)]
  omega
theorem keep2 {W w2 : World} {g g' o0 o1 : Nat} {v0 v1 : Value} (h : W.cell? ⟨g, o0, none⟩ = some v0 ∧ W.cell? ⟨g, o1, none⟩ = some v1)
    (h2 : w2.cell? ⟨g, o0, none⟩ = W.cell? ⟨g, o0, none⟩) (h3 : w2.cell? ⟨g, o1, none⟩ = W.cell? ⟨g, o1, none⟩) : w2.cell? ⟨g, o0, none⟩ = some v0 ∧ w2.cell? ⟨g, o1, none⟩ = some v1 :=
  ⟨h2.trans h.1, h3.trans h.2⟩
theorem keep4 {W w2 : World} {b o0 o1 o2 o3 g : Nat} {v0 v1 v2 v3 : Value} (hg : W.grownBy w2 (some g)) (hne : ¬ b = g)
    (h : W.cell? ⟨b, o0, none⟩ = some v0 ∧ W.cell? ⟨b, o1, none⟩ = some v1 ∧ W.cell? ⟨b, o2, none⟩ = some v2 ∧ W.cell? ⟨b, o3, none⟩ = some v3) :
    w2.cell? ⟨b, o0, none⟩ = some v0 ∧ w2.cell? ⟨b, o1, none⟩ = some v1 ∧ w2.cell? ⟨b, o2, none⟩ = some v2 ∧ w2.cell? ⟨b, o3, none⟩ = some v3 :=
  ⟨hg.cell h.1 (by simpa using hne), hg.cell h.2.1 (by simpa using hne), hg.cell h.2.2.1 (by simpa using hne), hg.cell h.2.2.2 (by simpa using hne)⟩
theorem word_val (x0 x1 x2 x3 : Nat) (d0 : x0 < 256) (d1 : x1 < 256) (d2 : x2 < 256) (d3 : x3 < 256) :
    bits .or .i64 (bits .or .i64 (bits .or .i64 (IntKind.i64.wrap (IntKind.i64.wrap (x0 : Int) * 16777216)) (IntKind.i64.wrap (IntKind.i64.wrap (x1 : Int) * 65536))) (IntKind.i64.wrap (IntKind.i64.wrap (x2 : Int) * 256))) (IntKind.i64.wrap (x3 : Int)) = ((x0 * 16777216 + x1 * 65536 + x2 * 256 + x3 : Nat) : Int) := by
  rw [wraps_i64 (x0 : Int) (by omega) (by omega), wraps_i64 (x1 : Int) (by omega) (by omega), wraps_i64 (x2 : Int) (by omega) (by omega), wraps_i64 (x3 : Int) (by omega) (by omega),
    wraps_i64 _ (by omega) (by omega), wraps_i64 _ (by omega) (by omega), wraps_i64 _ (by omega) (by omega),
    show (x0 : Int) * 16777216 = ((x0 * 16777216 : Nat) : Int) by omega, show (x1 : Int) * 65536 = ((x1 * 65536 : Nat) : Int) by omega, show (x2 : Int) * 256 = ((x2 * 256 : Nat) : Int) by omega,
    i64_or_nat _ _ (by omega) (by omega), nat_join 24 _ _ (by omega) (by omega), i64_or_nat _ _ (by omega) (by omega), nat_join 16 _ _ (by omega) (by omega), i64_or_nat _ _ (by omega) (by omega), nat_join 8 _ _ (by omega) (by omega)]
theorem getD_at {w : World} {b off len : Nat} {bs : List UInt8} (h : Sl w (some ⟨b, off, none⟩) len bs) (i : Nat) (hi : i < len) : w.cell? ⟨b, off + i, none⟩ = some (.int .u8 ((bs.getD i 0).toNat : Int)) := by
  have hl := h.1
  rw [h.at i (by omega), List.getD_eq_getElem?_getD, List.getElem?_eq_getElem (by omega)]; rfl

set_option maxRecDepth 100000 in
set_option maxHeartbeats 2000000 in
theorem spec_words (b off cap : Nat) (bs : List UInt8) (w : World) (h : Sl w (some ⟨b, off, none⟩) 64 bs) :
    Calls Tryd.prog 103 #[.slice (some ⟨b, off, none⟩) 64 cap] w fun e w' => ∃ g cp, e = .returned (.slice (some ⟨g, 0, none⟩) 64 cp) ∧ OwnN w' w.heap.size g 64 cp (ws bs 64) ∧ Below w.heap.size w w' := by
  obtain ⟨i0, hi, hz0, hz1, hz2⟩ := info_parts infoInt
  have hbl := h.lt (by omega)
  go_enter Tryd.func103, Tryd.ntmps103
  go_wp2_with (at_builtin; fail)
  go_loopw [3, 4] (fun v i wr => ∃ (k g cp : Nat), k ≤ 16 ∧ i = .int .i64 (k : Int) ∧ v = .slice (some ⟨g, 0, none⟩) k cp ∧ OwnN wr w.heap.size g k cp (ws bs k) ∧ Below w.heap.size w wr) (fun _ i _ => 16 - (intOf i).toNat)
  case atStart => exact ⟨0, w.heap.size, 0, Nat.zero_le _, rfl, rfl, ownN_made w _ (Nat.le_refl _), (Below.refl _ _).alloc (Nat.le_refl _) _⟩
  case round =>
    obtain ⟨k, g, cp, hk, rfl, rfl, hO, hB⟩ := hrel
    have hbw : w.heap.size ≤ wr.heap.size := hB.size
    by_cases hlt : k < 16
    · have hS := h.below hB
      have c0 := getD_at hS (4 * k) (by omega)
      have c1 := getD_at hS (4 * k + 1) (by omega)
      have c2 := getD_at hS (4 * k + 2) (by omega)
      have c3 := getD_at hS (4 * k + 3) (by omega)
      have hW : Hid (nextWord bs (ws bs k) k = be32 bs k) := by show _ = _; unfold nextWord; rw [if_pos hlt]
      have HBE : Hid (be32 bs k = (bs.getD (4 * k) 0).toNat * 16777216 + (bs.getD (4 * k + 1) 0).toNat * 65536 + (bs.getD (4 * k + 2) 0).toNat * 256 + (bs.getD (4 * k + 3) 0).toNat) := rfl
      have d0 := (bs.getD (4 * k) 0).toNat_lt
      have d1 := (bs.getD (4 * k + 1) 0).toNat_lt
      have d2 := (bs.getD (4 * k + 2) 0).toNat_lt
      have d3 := (bs.getD (4 * k + 3) 0).toNat_lt
      generalize (bs.getD (4 * k) 0).toNat = x0 at *
      generalize (bs.getD (4 * k + 1) 0).toNat = x1 at *
      generalize (bs.getD (4 * k + 2) 0).toNat = x2 at *
      generalize (bs.getD (4 * k + 3) 0).toNat = x3 at *
      have hne : ¬ b = g := by have := hO.lt; omega
      have hc3 : k + 1 ≤ maxLen := by unfold maxLen; omega
      have hc4 : (k + 1) * 8 ≤ 140737488355328 := by omega
      have e0 : IntKind.i64.wrap (4 * (k : Int)) = 4 * (k : Int) := wraps_i64 _ (by omega) (by omega)
      have e1 : IntKind.i64.wrap (4 * (k : Int) + 1) = 4 * (k : Int) + 1 := wraps_i64 _ (by omega) (by omega)
      have e2 : IntKind.i64.wrap (4 * (k : Int) + 2) = 4 * (k : Int) + 2 := wraps_i64 _ (by omega) (by omega)
      have e3 : IntKind.i64.wrap (4 * (k : Int) + 3) = 4 * (k : Int) + 3 := wraps_i64 _ (by omega) (by omega)
      have t0 : (4 * (k : Int)).toNat = 4 * k := by omega
      have t1 : (4 * (k : Int) + 1).toNat = 4 * k + 1 := by omega
      have t2 : (4 * (k : Int) + 2).toNat = 4 * k + 2 := by omega
      have t3 : (4 * (k : Int) + 3).toNat = 4 * k + 3 := by omega
      have p0 : 0 ≤ 4 * (k : Int) := by omega
      have p1 : 0 ≤ 4 * (k : Int) + 1 := by omega
      have p2 : 0 ≤ 4 * (k : Int) + 2 := by omega
      have p3 : 0 ≤ 4 * (k : Int) + 3 := by omega
      have hi0 : 4 * (k : Int) < 64 := by omega
      have hi1 : 4 * (k : Int) + 1 < 64 := by omega
      have hi2 : 4 * (k : Int) + 2 < 64 := by omega
      have hi3 : 4 * (k : Int) + 3 < 64 := by omega
      clear hS
      go_wp2_with (at_builtin; fail)
      go_region_held_law (fun w' => w'.cell? ⟨b, off + 4 * k, none⟩ = some (.int .u8 (x0 : Int)) ∧ w'.cell? ⟨b, off + (4 * k + 1), none⟩ = some (.int .u8 (x1 : Int)) ∧ w'.cell? ⟨b, off + (4 * k + 2), none⟩ = some (.int .u8 (x2 : Int)) ∧ w'.cell? ⟨b, off + (4 * k + 3), none⟩ = some (.int .u8 (x3 : Int))) (first | (go_keep) | (exact keep4 hgrow hne (by assumption))) ((refine step_append_own rfl (.tmp 15) (.tmp 49) 39 rfl w.heap.size 3 i0 (.int .i64 0) 1 8 Tryd.underlying39 hi hz0 hz1 hz2 rfl (by decide) _ _ _ rfl (hO.2.alloc _) ⟨wr.heap.size, 0, none⟩ 1 1 [_] rfl rfl (cell_one_new _ _ _) (one_oneCell _ _) hc3 hc4 (le_alloc _ _ hbw) ?_; intro v2 w2 hown hgrow hnn))
      have hgr2 : (wr.alloc (.cells #[.int .i64 (bits .or .i64 (bits .or .i64 (bits .or .i64 (IntKind.i64.wrap (IntKind.i64.wrap (x0 : Int) * 16777216)) (IntKind.i64.wrap (IntKind.i64.wrap (x1 : Int) * 65536))) (IntKind.i64.wrap (IntKind.i64.wrap (x2 : Int) * 256))) (IntKind.i64.wrap (x3 : Int)))] 3)).drew.grownBy w2 (some g) := hgrow
      rw [word_val x0 x1 x2 x3 d0 d1 d2 d3, ← HBE.out, ← hW.out, ← natVals_snoc] at hown
      obtain ⟨g2, cp2, hv, hO2⟩ := ownN_val (zs := ws bs (k + 1)) (ws_length bs (k + 1)) (by simpa using hnn) hown
      subst hv
      have hB2 : Below w.heap.size w w2 := (hB.alloc hbw _).drew.grown hgr2 (le_alloc _ _ hbw) (fun k e => by cases e; exact hO.lt.1)
      have HO2 := Hid.mk' hO2
      clear hown hgrow hgr2 hnn hO2 hO hB e0 e1 e2 e3 t0 t1 t2 t3
      go_wp2_with (at_builtin; fail)
      go_roundw
      case rel => exact ⟨k + 1, g2, cp2, by omega, by go_num, rfl, HO2.out, hB2⟩
      case measure => simp [intOf]; omega
    · have HE : Hid (k = 16) := by show _ = _; omega
      go_wp2_with (at_builtin; fail)
      go_loopw [3, 5] (fun v i wq => ∃ (k g cp : Nat), 16 ≤ k ∧ k ≤ 64 ∧ i = .int .i64 (k : Int) ∧ v = .slice (some ⟨g, 0, none⟩) k cp ∧ OwnN wq w.heap.size g k cp (ws bs k) ∧ Below w.heap.size w wq) (fun _ i _ => 64 - (intOf i).toNat)
      case atStart => exact ⟨16, g, cp, by omega, by omega, rfl, by rw [HE.out], by rw [HE.out] at hO; exact hO, hB⟩
      case round =>
        clear hO hB hbw
        obtain ⟨k, g5, cp5, hk16, hk64, rfl, rfl, hO, hB⟩ := hrel
        have hbw : w.heap.size ≤ wr.heap.size := hB.size
        by_cases hlt : k < 64
        · have hall := ws_lt bs k
          have c15 := hO.at (k - 15) (by omega)
          have c2 := hO.at (k - 2) (by omega)
          have c16 := hO.at (k - 16) (by omega)
          have c7 := hO.at (k - 7) (by omega)
          have b15 := getD_lt hall (k - 15)
          have b2 := getD_lt hall (k - 2)
          have b16 := getD_lt hall (k - 16)
          have b7 := getD_lt hall (k - 7)
          have HW : Hid (nextWord bs (ws bs k) k = ((ws bs k).getD (k - 16) 0 + ssig0 ((ws bs k).getD (k - 15) 0) + (ws bs k).getD (k - 7) 0 + ssig1 ((ws bs k).getD (k - 2) 0)) % 4294967296) := by
            show _ = _; unfold nextWord; rw [if_neg (by omega)]
          generalize (ws bs k).getD (k - 15) 0 = x15 at *
          generalize (ws bs k).getD (k - 2) 0 = x2 at *
          generalize (ws bs k).getD (k - 16) 0 = x16 at *
          generalize (ws bs k).getD (k - 7) 0 = x7 at *
          have hs0 := sig0_val x15 b15
          have hs1 := sig1_val x2 b2
          have l0 := ssig0_lt x15 b15
          have l1 := ssig1_lt x2 b2
          have hc3 : k + 1 ≤ maxLen := by unfold maxLen; omega
          have hc4 : (k + 1) * 8 ≤ 140737488355328 := by omega
          clear hall
          go_wp2_with fail
          refine (spec_turnI x15 7 _ _ (by show _ = _; rfl) b15 (by omega) (by omega)).mono ?_
          rintro e w1 ⟨rfl, hw1⟩
          subst hw1
          go_wp2_with fail
          refine (spec_turnI x15 18 _ _ (by show _ = _; rfl) b15 (by omega) (by omega)).mono ?_
          rintro e w1 ⟨rfl, hw1⟩
          subst hw1
          go_wp2_with fail
          refine (spec_turnI x2 17 _ _ (by show _ = _; rfl) b2 (by omega) (by omega)).mono ?_
          rintro e w1 ⟨rfl, hw1⟩
          subst hw1
          go_wp2_with fail
          refine (spec_turnI x2 19 _ _ (by show _ = _; rfl) b2 (by omega) (by omega)).mono ?_
          rintro e w1 ⟨rfl, hw1⟩
          subst hw1
          go_wp2_with fail
          obtain ⟨j16, hj16⟩ : ∃ j, k - 16 = j := ⟨_, rfl⟩
          obtain ⟨j7, hj7⟩ : ∃ j, k - 7 = j := ⟨_, rfl⟩
          have e16 : IntKind.i64.wrap ((k : Int) - 16) = (j16 : Int) := by rw [wraps_i64 _ (by omega) (by omega)]; omega
          have e7 : IntKind.i64.wrap ((k : Int) - 7) = (j7 : Int) := by rw [wraps_i64 _ (by omega) (by omega)]; omega
          have q16 : (j16 : Int) < (k : Int) := by omega
          have q7 : (j7 : Int) < (k : Int) := by omega
          rw [hj16] at c16
          rw [hj7] at c7
          clear hj16 hj7
          clear hs0 hs1 c15 c2
          generalize ssig0 x15 = s0 at *
          generalize ssig1 x2 = s1 at *
          go_region_law (refine step_append_own rfl (.tmp 81) (.tmp 98) 39 rfl w.heap.size 3 i0 (.int .i64 0) 1 8 Tryd.underlying39 hi hz0 hz1 hz2 rfl (by decide) _ _ _ rfl (hO.2.alloc _) ⟨w1.heap.size, 0, none⟩ 1 1 [_] rfl rfl (cell_one_new _ _ _) (one_oneCell _ _) hc3 hc4 (le_alloc _ _ hbw) ?_; intro v2 w2 hown hgrow hnn)
          all_goals
            have hgr2 : (w1.alloc (.cells #[.int .i64 (bits .and .i64 (IntKind.i64.wrap (IntKind.i64.wrap (IntKind.i64.wrap ((x16 : Int) + (s0 : Int)) + (x7 : Int)) + (s1 : Int))) 4294967295)] 3)).drew.grownBy w2 (some g5) := hgrow
            rw [next_val x16 s0 x7 s1 b16 l0 b7 l1, ← HW.out, ← natVals_snoc] at hown
            obtain ⟨g2, cp2, hv, hO2⟩ := ownN_val (zs := ws bs (k + 1)) (ws_length bs (k + 1)) (by simpa using hnn) hown
            subst hv
            have hB2 : Below w.heap.size w w2 := (hB.alloc hbw _).drew.grown hgr2 (le_alloc _ _ hbw) (fun k e => by cases e; exact hO.lt.1)
            have HO2 := Hid.mk' hO2
            clear hown hgrow hgr2 hnn hO2 hO hB e16 e7
            go_wp2_with fail
            go_roundw
            case rel => exact ⟨k + 1, g2, cp2, by omega, by omega, by go_num, rfl, HO2.out, hB2⟩
            case measure => simp [intOf]; omega
        · have HE2 : Hid (k = 64) := by show _ = _; omega
          go_wp2_with fail
          go_ret
          rw [HE2.out] at hO
          exact ⟨g5, cp5, by rw [HE2.out]; rfl, hO, hB⟩

end Go.Proofs.YtooiinicnkhlbaaDoor.sha
