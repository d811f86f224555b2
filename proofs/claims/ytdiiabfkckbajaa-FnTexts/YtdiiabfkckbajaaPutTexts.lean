/- Writing a list of texts: the program's and the specification's PutTexts answer as one and the same function. -/
import Derived.Test.YtdiiabfkckbajaaPutText
import Derived.Test.YtdiiabfkckbajaaHelpS
namespace Go.Proofs.Ytdiiabfkckbajaa.puttexts
open Go.RowKit Go.Proofs.Ytdiiabfkckbajaa.base Go.Proofs.Ytdiiabfkckbajaa.help Go.Proofs.Ytdiiabfkckbajaa.helps Go.Proofs.Ytdiiabfkckbajaa.putnum Go.Proofs.Ytdiiabfkckbajaa.puttext
set_option linter.unusedVariables false
set_option linter.unusedSimpArgs false

def listBytes (ss : List ByteArray) : List UInt8 := numBytes (ss.length : Int) ++ textsBytes ss
/-- how many letters -/
def sum (ss : List ByteArray) : Nat := (ss.map ByteArray.size).sum
theorem sum_snoc (ss : List ByteArray) (s : ByteArray) : sum (ss ++ [s]) = sum ss + s.size := by simp [sum]
theorem sum_take (ss : List ByteArray) (k : Nat) (h : k < ss.length) : sum (ss.take (k + 1)) = sum (ss.take k) + ss[k].size := by
  rw [List.take_succ_eq_append_getElem h, sum_snoc]
theorem sum_le (ss : List ByteArray) (k : Nat) : sum (ss.take k) ≤ sum ss := by
  have e : sum ss = sum (ss.take k) + sum (ss.drop k) := by
    unfold sum; rw [← List.sum_append, ← List.map_append, List.take_append_drop]
  omega
theorem size_le_sum (ss : List ByteArray) : ∀ s ∈ ss, s.size ≤ sum ss := by
  induction ss with
  | nil => intro s h; exact absurd h List.not_mem_nil
  | cons x l ih =>
    intro s h
    simp only [sum, List.map_cons, List.sum_cons] at *
    rcases List.mem_cons.1 h with h | h
    · subst h; omega
    · have := ih s h; omega
theorem textsBytes_sum (ss : List ByteArray) : (textsBytes ss).length ≤ sum ss + 5 * ss.length := by
  induction ss with
  | nil => simp [textsBytes]
  | cons x l ih =>
    have := textBytes_length x
    simp only [textsBytes, sum, List.map_cons, List.flatten_cons, List.sum_cons, List.length_append, List.length_cons] at *
    omega

def szR (L t : Nat) : Int := if t ≤ L then (L : Int) - (t : Int) else -1
theorem szR_neg {L t : Nat} (h : L < t) : szR L t = -1 := by unfold szR; rw [if_neg (by omega)]
theorem szR_pos {L t : Nat} (h : t ≤ L) : szR L t = (L : Int) - (t : Int) := by unfold szR; rw [if_pos h]

set_option maxRecDepth 100000 in
set_option maxHeartbeats 1000000 in
theorem szStringS (a : Option Addr) (len cap : Nat) (ss : List ByteArray) (L : Nat) (w : World) (h : SlS w a len ss) (hL : L ≤ 1099511627776) :
    Calls Try.prog 34 #[.slice a len cap, .int .i64 (L : Int)] w fun e w' => e = .returned (.int .i64 (szR L (ss.length + sum ss))) ∧ w' = w := by
  obtain ⟨hl, hm, hsm, hc⟩ := h
  subst hl
  unfold maxLen at hm hsm
  by_cases hneg : L < ss.length
  · rw [szR_neg (by omega)]
    have h1 : (L : Int) - (ss.length : Int) < 0 := by omega
    go_enter Try.func34, Try.ntmps34
    go_wp2
    go_ret
    exact ⟨rfl, rfl⟩
  · have h1 : ¬ (L : Int) - (ss.length : Int) < 0 := by omega
    go_enter Try.func34, Try.ntmps34
    go_wp2
    go_loop [1, 5] (fun lv i => ∃ k m : Nat, k ≤ ss.length ∧ i = .int .i64 (k : Int) ∧ lv = .int .i64 (m : Int) ∧ m + (ss.length + sum (ss.take k)) = L) (fun _ i => ss.length - (intOf i).toNat)
    case atStart => exact ⟨0, L - ss.length, Nat.zero_le _, rfl, by go_num, by simp [sum]; omega⟩
    case round =>
      obtain ⟨k, m, hk, rfl, rfl, hmL⟩ := hrel
      by_cases hlt : k < ss.length
      · obtain ⟨b, off, ha, hcl⟩ := hc (by omega)
        subst ha
        have hst := sum_take ss k hlt
        have hle := sum_le ss (k + 1)
        have hsz := hsm _ (List.getElem_mem hlt)
        generalize hsk : ss[k] = s at *
        have c1 : w.cell? ⟨b, off + k, none⟩ = some (.string s) := by rw [hcl k hlt, hsk]
        have hi1 : (k : Int) < (ss.length : Int) := by omega
        have hmB : m ≤ 1099511627776 := by omega
        have HML := Hid.mk' hmL
        have HST := Hid.mk' hst
        have HLE := Hid.mk' hle
        clear hcl hc hsm hsk hmL hst hle
        by_cases hover : m < s.size
        · have h2 : (m : Int) - (s.size : Int) < 0 := by omega
          go_wp2
          go_ret
          have e1 := HML.out
          have e2 := HST.out
          have e3 := HLE.out
          rw [szR_neg (by omega)]
          exact ⟨rfl, rfl⟩
        · have h2 : ¬ (m : Int) - (s.size : Int) < 0 := by omega
          go_wp2
          go_round
          case rel => exact ⟨k + 1, m - s.size, by omega, by go_num, by go_num, by have e1 := HML.out; have e2 := HST.out; omega⟩
          case measure => simp [intOf]; omega
      · have e : k = ss.length := by omega
        have HML := Hid.mk' hmL
        clear hmL
        go_wp2
        go_ret
        have e1 := HML.out
        rw [e, List.take_length] at e1
        rw [szR_pos (by omega)]
        exact ⟨ret_int (by omega), rfl⟩

set_option maxRecDepth 100000 in
set_option maxHeartbeats 1000000 in
theorem spec_texts (b off len cap : Nat) (bs : List UInt8) (a : Option Addr) (len2 cap2 : Nat) (ss : List ByteArray) (w : World) (h : Sl w (some ⟨b, off, none⟩) len bs) (hS : SlS w a len2 ss) (hsz : len ≤ 134217728) (hs : ss.length + sum ss ≤ 134217728) :
    Calls Try.prog 35 #[.slice (some ⟨b, off, none⟩) len cap, .slice a len2 cap2] w fun e w' =>
      ∃ g' n' cap', e = .returned (.slice (some ⟨g', 0, none⟩) n' cap') ∧ Own w' w.heap.size g' n' cap' (bs ++ listBytes ss) ∧ Below w.heap.size w w' := by
  have hl := h.1
  obtain ⟨hl2, hm, hsm, hc⟩ := id hS
  subst hl2
  unfold maxLen at hm
  have hwf : (Lit.int .i64 (ss.length : Int)).wf = true := WalkArith.wf_i64 (by omega)
  have hnb := numBytes_length (ss.length : Int)
  go_enter Try.func35, Try.ntmps35
  go_wp2_with fail
  refine (spec_put b off len cap bs _ _ h hwf (by omega)).mono ?_
  rintro e w1 ⟨g1, n1, cap1, rfl, hO1, hB1⟩
  go_wp2_with fail
  go_loopw [5, 6] (fun v i wr => ∃ (k g' n' cap' : Nat), v = .slice (some ⟨g', 0, none⟩) n' cap' ∧ i = .int .i64 (k : Int) ∧ k ≤ ss.length ∧ Own wr w.heap.size g' n' cap' (bs ++ numBytes (ss.length : Int) ++ textsBytes (ss.take k)) ∧ Below w.heap.size w wr) (fun _ i _ => ss.length - (intOf i).toNat)
  case atStart => exact ⟨0, g1, n1, cap1, rfl, rfl, Nat.zero_le _, by simpa [textsBytes] using hO1, hB1⟩
  case round =>
    obtain ⟨k, g', n', cap', rfl, rfl, hk, hO, hB⟩ := hrel
    clear hO1 hB1
    by_cases hlt : k < ss.length
    · obtain ⟨bb, off2, ha, hcl⟩ := hc (by omega)
      subst ha
      have hbb : bb < w.heap.size := World.block_lt_of_cell? w _ (hcl k hlt)
      generalize hsk : ss[k] = s
      have c1 : wr.cell? ⟨bb, off2 + k, none⟩ = some (.string s) := by rw [hB.cell (p := ⟨bb, off2 + k, none⟩) hbb, hcl k hlt, hsk]
      have hT := textsBytes_take ss k hlt
      rw [hsk] at hT
      have hs1 : s.size ≤ sum ss := by rw [← hsk]; exact size_le_sum ss _ (List.getElem_mem hlt)
      have hle := textsBytes_le ss k
      have hle2 := textsBytes_sum ss
      have hn' : n' ≤ 549755813888 := by have := hO.1; simp only [List.length_append] at this; omega
      have hi1 : (k : Int) < (ss.length : Int) := by omega
      have HT := Hid.mk' hT
      clear hT hle hle2 hcl hc hsk hS hsm
      go_wp2_with fail
      refine (spec_text g' 0 n' cap' _ s _ hO.sl hn' (by omega)).mono ?_
      rintro e w2 ⟨g2, n2, cap2', rfl, hO2, hB2⟩
      have HO2 : Hid (Own w2 w.heap.size g2 n2 cap2' (bs ++ numBytes (ss.length : Int) ++ textsBytes (ss.take (k + 1)))) := by
        show Own w2 w.heap.size g2 n2 cap2' _
        rw [HT.out, ← List.append_assoc]
        exact hO2.mono hB.size
      have hB3 := hB.trans (hB2.mono hB.size)
      clear hO hO2 hB hB2
      go_wp2_with fail
      go_roundw
      case rel => exact ⟨k + 1, g2, _, cap2', rfl, by go_num, by omega, HO2.out, hB3⟩
      case measure => simp [intOf]; omega
    · have e : k = ss.length := by omega
      go_wp2_with fail
      go_ret
      subst e
      rw [List.take_length, List.append_assoc] at hO
      exact ⟨g', n', cap', rfl, hO, hB⟩

set_option maxRecDepth 100000 in
set_option maxHeartbeats 1000000 in
theorem impl_texts (a0 : Option Addr) (len cap : Nat) (bs : List UInt8) (g2 base len2 cap2 : Nat) (ss : List ByteArray) (w : World) (h : Sl w a0 len bs) (hS : OwnS w base g2 len2 cap2 ss) (hsz : len ≤ 134217728) (hs : ss.length + sum ss ≤ 134217728) :
    Calls Try.prog 20 #[.slice a0 len cap, .slice (some ⟨g2, 0, none⟩) len2 cap2] w fun e w' =>
      ∃ g' n' cap', e = .returned (.slice (some ⟨g', 0, none⟩) n' cap') ∧ Own w' w.heap.size g' n' cap' (bs ++ listBytes ss) ∧ Below w.heap.size w w' := by
  have hl := h.1
  have hl2 := hS.1
  have hwf : (Lit.int .i64 (len2 : Int)).wf = true := WalkArith.wf_i64 (by omega)
  have hnb := numBytes_length (len2 : Int)
  have hle2 := textsBytes_sum ss
  go_enter Try.func20, Try.ntmps20
  go_wp2_with fail
  refine (impl_put a0 len cap bs _ _ h hwf (by omega)).mono ?_
  rintro e w1 ⟨g1, n1, cap1, rfl, hO1, hB1⟩
  have hS1 := hS.below hB1
  have hn1 : n1 ≤ 134217733 := by have := hO1.1; simp at this; omega
  go_wp2_with fail
  refine (addTexts g1 n1 cap1 w.heap.size _ _ len2 cap2 ss _ hO1 hB1.size hS1.sl ?_ ?_ ?_).mono ?_
  · intro b off e
    simp only [Option.some.injEq, Addr.mk.injEq, and_true] at e
    obtain ⟨rfl, rfl⟩ := e
    obtain ⟨_, _, cur, hcur⟩ := hS1.cases
    exact ⟨cur, _, hcur⟩
  · omega
  · intro x hx; have := size_le_sum ss x hx; omega
  rintro e w2 ⟨g3, n3, cap3, rfl, hO3, hB3, _⟩
  go_wp2_with fail
  go_ret
  refine ⟨g3, n3, cap3, rfl, ?_, hB1.trans hB3⟩
  rw [List.append_assoc, ← hl2] at hO3
  exact hO3

end Go.Proofs.Ytdiiabfkckbajaa.puttexts
