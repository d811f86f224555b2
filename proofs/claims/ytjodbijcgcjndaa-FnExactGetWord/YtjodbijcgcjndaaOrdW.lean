/- The specification's orders as bytes. -/
import Derived.Test.YtjodbijcgcjndaaOrdX
namespace Go.Proofs.Ytjodbijcgcjndaa.ords
open Go Go.RowKit Go.Proofs.Ytjodbijcgcjndaa.base Go.Proofs.Ytjodbijcgcjndaa.pairs Go.Proofs.Ytjodbijcgcjndaa.putnum Go.Proofs.Ytjodbijcgcjndaa.puttext Go.Proofs.Ytjodbijcgcjndaa.getnum Go.Proofs.Ytjodbijcgcjndaa.gettext
set_option linter.unusedVariables false
set_option linter.unusedSimpArgs false

theorem odBytes_length {o : Od} (h : odOk o = true) : (odBytes o).length ≤ 47 := by
  obtain ⟨_, _, h3, h4⟩ := (odOk_iff o).1 h
  have h5 := keyOk_size h3
  have h6 := textBytes_length o.2.1
  have h7 := textBytes_length o.2.2
  have h8 := numBytes_length o.1
  simp [odBytes]
  omega
theorem odsBytes_length {l : List Od} (h : ∀ o ∈ l, odOk o = true) : (odsBytes l).length ≤ 47 * l.length := by
  induction l with
  | nil => simp [odsBytes]
  | cons o l ih =>
    rw [odsBytes_cons, List.length_append, List.length_cons]
    have := odBytes_length (h o List.mem_cons_self)
    have := ih (fun x hx => h x (List.mem_cons_of_mem _ hx))
    omega
theorem putOps_length (l : List Od) : (putOps l).length ≤ 400 := by
  unfold putOps
  split
  · next h =>
    obtain ⟨⟨h1, _⟩, _, h3⟩ := (opsOk_iff l).1 h
    have := odsBytes_length h1
    have := numBytes_length (l.length : Int)
    rw [List.length_append]; omega
  · simp
theorem shards_length (n : Int) (l : List Od) : (shardsOf n l).length ≤ l.length := by
  have h : ∀ (l : List Od) (u : List Int), (l.foldl (fun u o => putI u (shardOf o.2.1 n)) u).length ≤ u.length + l.length := by
    intro l
    induction l with
    | nil => intro u; simp
    | cons o l ih =>
      intro u
      have := ih (putI u (shardOf o.2.1 n))
      have := putI_length u (shardOf o.2.1 n)
      simp only [List.foldl_cons, List.length_cons]; omega
  simpa [shardsOf] using h l []
set_option maxRecDepth 100000 in
set_option maxHeartbeats 4000000 in
theorem spec_putOps (b off len cap : Nat) (l : List Od) (w : World) (h : SlO w (some ⟨b, off, none⟩) len l) (hks : ∀ p ∈ l, p.2.1.size ≤ 1099511627776) :
    Calls Try.prog 47 #[.slice (some ⟨b, off, none⟩) len cap] w fun e w' =>
      ∃ g' n' cap', e = .returned (.slice (some ⟨g', 0, none⟩) n' cap') ∧ Own w' w.heap.size g' n' cap' (putOps l) ∧ Below w.heap.size w w' := by
  have HOK := Hid.mk' (spec_opsOk b off len cap l w h hks)
  have hl := h.1
  have hm := h.2.1
  unfold maxLen at hm
  subst hl
  cases hok : opsOk l
  · rw [hok] at HOK
    have HP : Hid (putOps l = []) := opsOk_put l hok
    clear hok
    go_enter Try.func47, Try.ntmps47
    go_wp2_with fail
    refine HOK.out.mono ?_
    rintro e w1 ⟨rfl, hb1⟩
    have hO1 := own_made w1 w.heap.size hb1.size
    go_wp2_with fail
    go_ret
    exact ⟨_, _, _, rfl, by rw [HP.out]; exact hO1, hb1.alloc hb1.size _⟩
  · rw [hok] at HOK
    have HP : Hid (putOps l = numBytes (l.length : Int) ++ odsBytes l) := by show _ = _; unfold putOps; rw [if_pos hok]
    obtain ⟨⟨hall, _⟩, hl1, hl8⟩ := (opsOk_iff l).1 hok
    clear hok
    have hnb := numBytes_length (l.length : Int)
    go_enter Try.func47, Try.ntmps47
    go_wp2_with fail
    refine HOK.out.mono ?_
    rintro e w1 ⟨rfl, hb1⟩
    have hO1 := own_made w1 w1.heap.size (Nat.le_refl _)
    have hb1' : Below w.heap.size w (w1.alloc (.cells #[] 5)) := hb1.alloc hb1.size _
    have HPN := Hid.mk' (spec_put w1.heap.size 0 0 0 [] (l.length : Int) _ hO1.sl (WalkArith.wf_i64 (by omega)) (by omega))
    clear HOK hO1
    go_wp2_with fail
    refine HPN.out.mono ?_
    rintro e w2 ⟨g2, n2, cp2, rfl, hO2, hb2⟩
    have hB2 : Below w.heap.size w w2 := hb1'.trans (hb2.mono hb1'.size)
    have hO2' := hO2.mono (base' := w.heap.size) (by have := hb1'.size; omega)
    clear HPN hO2 hb2 hb1 hb1'
    have hn2 := hO2'.1
    go_wp2_with fail
    go_loopw [3, 4] (fun v i wr => ∃ (k g n cp : Nat), k ≤ l.length ∧ n ≤ 5 + 47 * k ∧ i = .int .i64 (k : Int) ∧ v = .slice (some ⟨g, 0, none⟩) n cp ∧ Own wr w.heap.size g n cp (numBytes (l.length : Int) ++ odsBytes (l.take k)) ∧ Below w.heap.size w wr) (fun _ i _ => l.length - (intOf i).toNat)
    case atStart => exact ⟨0, g2, n2, cp2, Nat.zero_le _, by simp at hn2; omega, rfl, rfl, by simpa [odsBytes] using hO2', hB2⟩
    case round =>
      clear hO2' hB2 hn2
      obtain ⟨k, g, n, cp, hk, hn, rfl, rfl, hO, hB⟩ := hrel
      by_cases hlt : k < l.length
      · obtain ⟨c0, c1, c2⟩ := (h.below hB).cells k hlt
        have hki : (k : Int) < (l.length : Int) := by omega
        have hpk := hall _ (List.getElem_mem hlt)
        have HT : Hid (numBytes (l.length : Int) ++ odsBytes (l.take (k + 1)) = (numBytes (l.length : Int) ++ odsBytes (l.take k)) ++ odBytes l[k]) := by show _ = _; rw [odsBytes_take l k hlt, List.append_assoc]
        have hol := odBytes_length hpk
        obtain ⟨hz, _, hkey, hval⟩ := (odOk_iff _).1 hpk
        have hks' := keyOk_size hkey
        have hzf : (Lit.int .i64 l[k].1).wf = true := WalkArith.wf_i64 (by omega)
        have hOd : Own wr.drew w.heap.size g n cp (numBytes (l.length : Int) ++ odsBytes (l.take k)) := hO
        generalize l[k] = p at *
        generalize numBytes (l.length : Int) ++ odsBytes (l.take k) = B at *
        have hnz := numBytes_length p.1
        have htk := textBytes_length p.2.1
        go_wp2_with fail
        go_region_held3 (fun w' => w'.cell? ⟨b, off + k * 3, none⟩ = some (.int .i64 p.1) ∧ w'.cell? ⟨b, off + k * 3 + 1, none⟩ = some (.string p.2.1) ∧ w'.cell? ⟨b, off + k * 3 + 2, none⟩ = some (.string p.2.2)) (first | (exact keepB3 hb7 (by assumption)) | (exact keepB3 hb6 (by assumption)) | (exact keepB3 hb5 (by assumption)) | (go_keep)) (first | (go_at_call 65; have h9 := hb6; refine (puttext.spec_text g6 0 n6 cp6 (B ++ numBytes p.1 ++ textBytes p.2.1) p.2.2 _ hO6.sl (by have := hO6.1; have := hO.1; simp at *; omega) (by omega)).mono ?_; rintro e w7 ⟨g7, n7, cp7, rfl, hO7, hb7⟩) | (go_at_call 65; have h9 := hb5; refine (puttext.spec_text g5 0 n5 cp5 (B ++ numBytes p.1) p.2.1 _ hO5.sl (by have := hO5.1; have := hO.1; simp at *; omega) (by omega)).mono ?_; rintro e w6 ⟨g6, n6, cp6, rfl, hO6, hb6⟩) | (go_at_call 45; refine (spec_put g 0 n cp B p.1 _ hOd.sl hzf (by omega)).mono ?_; rintro e w5 ⟨g5, n5, cp5, rfl, hO5, hb5⟩))
        all_goals
          have hB5 : Below w.heap.size w w5 := hB.drew.trans (hb5.mono hB.size)
          have hB6 : Below w.heap.size w w6 := hB5.trans (hb6.mono hB5.size)
          have hB7 : Below w.heap.size w w7 := hB6.trans (hb7.mono hB6.size)
          have hO7' := hO7.mono (base' := w.heap.size) hB6.size
          have hn7 : n7 ≤ 5 + 47 * (k + 1) := by
            have e1 := hO7.1
            have e2 := hO.1
            simp [odBytes] at e1 hol
            omega
          have e : B ++ numBytes p.1 ++ textBytes p.2.1 ++ textBytes p.2.2 = B ++ odBytes p := by simp [odBytes]
          rw [e] at hO7'
          have HO7 := Hid.mk' hO7'
          clear hb5 hb6 hb7 hO5 hO6 hO7 hO7' hO hOd hB hB5 hB6 c0 c1 c2 e
          go_wp2_with fail
          go_roundw
          case rel => exact ⟨k + 1, g7, n7, cp7, by omega, hn7, by go_num, rfl, by rw [HT.out]; exact HO7.out, hB7⟩
          case measure => simp [intOf]; omega
      · have HE : Hid (l.take k = l) := List.take_of_length_le (by omega)
        go_wp2_with fail
        go_ret
        rw [HE.out, ← HP.out] at hO
        exact ⟨g, n, cp, rfl, hO, hB⟩
end Go.Proofs.Ytjodbijcgcjndaa.ords
