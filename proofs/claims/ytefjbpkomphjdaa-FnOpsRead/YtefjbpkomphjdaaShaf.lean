/- The specification's statements: the texts of orders and of pairs. What the laws on statements draw. append within the room that a make laid: small facts on worlds; no function of the program is named here. The program's keys and pairs: what is right. -/
import Derived.Test.YtefjbpkomphjdaaShae
import Derived.BigQuiet
import Derived.Laws.Concat
import Derived.Test.YtefjbpkomphjdaaShac
import Derived.Test.YtefjbpkomphjdaaShaa
import Derived.OwnWalk
namespace Go.Proofs.Ytefjbpkomphjdaa.txts
open Go Go.RowKit Go.Proofs.Ytefjbpkomphjdaa.base Go.Proofs.Ytefjbpkomphjdaa.pairs Go.Proofs.Ytefjbpkomphjdaa.ords
set_option linter.unusedVariables false
set_option linter.unusedSimpArgs false

/-! ### texts joined by a blank, as far as k -/
def jn (ts : List (List UInt8)) (k : Nat) : ByteArray := ⟨(Lib.join (ts.take k) [32]).toArray⟩
def room (ts : List (List UInt8)) : Nat := Lib.lens ts + ts.length
theorem jn_zero (ts : List (List UInt8)) : jn ts 0 = ⟨#[]⟩ := rfl
theorem jn_all (ts : List (List UInt8)) : jn ts ts.length = ⟨(Lib.join ts [32]).toArray⟩ := by unfold jn; rw [List.take_length]
theorem jn_first (ts : List (List UInt8)) (h : 0 < ts.length) : jn ts 1 = ⟨ts[0].toArray⟩ := by
  cases ts with
  | nil => simp at h
  | cons a r => unfold jn; simp [Lib.join_one]
theorem jn_more (ts : List (List UInt8)) (k : Nat) (h : k < ts.length) (h0 : 0 < k) : (jn ts (k + 1)).data.toList = (jn ts k).data.toList ++ 32 :: ts[k] := by
  cases ts with
  | nil => simp at h
  | cons a r =>
    obtain ⟨j, rfl⟩ : ∃ j, k = j + 1 := ⟨k - 1, by omega⟩
    have hj : j < r.length := by simpa using h
    unfold jn
    simp only [List.take_succ_cons, List.getElem_cons_succ]
    rw [Lib.join_cons, Lib.join_cons, Lib.joinTail_take_succ [32] r j r[j] (List.getElem?_eq_getElem hj)]
    simp
theorem lens_take (ts : List (List UInt8)) (k : Nat) : Lib.lens (ts.take k) ≤ Lib.lens ts := by
  unfold Lib.lens
  induction ts generalizing k with
  | nil => simp
  | cons a r ih =>
    cases k with
    | zero => simp
    | succ k => simp only [List.take_succ_cons, List.map_cons, List.sum_cons]; have := ih k; omega
theorem join_room (ts : List (List UInt8)) : (Lib.join ts [32]).length ≤ room ts := by
  unfold room
  cases ts with
  | nil => simp [Lib.join_nil]
  | cons a r => rw [Lib.join_length]; simp only [List.length_cons, List.length_nil, Nat.zero_add, Nat.one_mul]; omega
theorem jn_size (ts : List (List UInt8)) (k : Nat) : (jn ts k).size ≤ room ts := by
  unfold jn
  rw [ba_size]
  have h1 := join_room (ts.take k)
  have h2 := lens_take ts k
  unfold room at h1 ⊢
  rw [List.length_take] at h1
  omega
theorem lens_mem (ts : List (List UInt8)) (t : List UInt8) (h : t ∈ ts) : t.length ≤ Lib.lens ts := by
  unfold Lib.lens
  induction ts with
  | nil => cases h
  | cons a r ih =>
    simp only [List.map_cons, List.sum_cons]
    rcases List.mem_cons.1 h with rfl | h
    · omega
    · have := ih h; omega
theorem lens_bound (ts : List (List UInt8)) (M : Nat) (h : ∀ t ∈ ts, t.length ≤ M) : Lib.lens ts ≤ ts.length * M := by
  unfold Lib.lens
  induction ts with
  | nil => simp
  | cons a r ih =>
    simp only [List.map_cons, List.sum_cons, List.length_cons, Nat.add_mul, Nat.one_mul]
    have := ih (fun t ht => h t (List.mem_cons_of_mem _ ht))
    have := h a List.mem_cons_self
    omega
theorem add_str (a b c : ByteArray) (hc : c = a ++ b) (h : a.size + b.size ≤ 9223372036854775807) (W : World) : (Op.stringOp .add a b).run Try.prog W = .ok (.string c) W := by
  rw [hc]; exact run_string_add_sum W a b h
theorem app_size {a b c : ByteArray} (hc : c = a ++ b) : c.size = a.size + b.size := by rw [hc, ByteArray.size_append]
theorem app_list {a b c : ByteArray} (hc : c = a ++ b) : c.data.toList = a.data.toList ++ b.data.toList := by rw [hc, ByteArray.data_append, Array.toList_append]
theorem odText_len (o : Od) : (odText o).length ≤ o.2.1.size + o.2.2.size + 1 := by
  have h1 := size_len o.2.1
  have h2 := size_len o.2.2
  unfold odText
  split
  · simp only [List.length_append, List.length_cons]; omega
  · split
    · simp only [List.length_cons]; omega
    · simp only [List.length_append, List.length_cons]; omega
theorem texts_room {l : List Od} (h : opsOk l = true) : room (l.map odText) ≤ 400 := by
  obtain ⟨⟨h1, _⟩, _, h3⟩ := (opsOk_iff l).1 h
  have := lens_bound (l.map odText) 33 (fun t ht => by
    obtain ⟨o, ho, rfl⟩ := List.mem_map.1 ht
    obtain ⟨_, _, h5, h6⟩ := (odOk_iff o).1 (h1 o ho)
    have := odText_len o
    have := keyOk_size h5
    omega)
  unfold room
  rw [List.length_map] at this ⊢
  omega
def Plains (l : List Od) (K : Bool) (k : Nat) : Prop := ((l.drop k).all fun o => plainS o.2.2) = K
theorem plains_no {l : List Od} {K : Bool} {k : Nat} (h : Plains l K k) (hk : k < l.length) (hp : plainS l[k].2.2 = false) : K = false := by
  unfold Plains at h; rw [List.drop_eq_getElem_cons hk, List.all_cons, hp] at h; exact h.symm
theorem plains_yes {l : List Od} {K : Bool} {k : Nat} (h : Plains l K k) (hk : k < l.length) (hp : plainS l[k].2.2 = true) : Plains l K (k + 1) := by
  unfold Plains at h ⊢; rw [List.drop_eq_getElem_cons hk, List.all_cons, hp] at h; simpa using h
theorem plains_end {l : List Od} {K : Bool} {k : Nat} (h : Plains l K k) (hk : l.length ≤ k) : K = true := by
  unfold Plains at h; rw [List.drop_eq_nil_of_le hk] at h; exact h.symm
theorem opsText_yes {l : List Od} (h : opsOk l = true) (hp : (l.all fun o => plainS o.2.2) = true) : (⟨(opsText l).toArray⟩ : ByteArray) = jn (l.map odText) l.length := by
  unfold opsText; rw [if_pos ⟨h, hp⟩, ← jn_all, List.length_map]
theorem opsText_no {l : List Od} (h : opsOk l = false ∨ (l.all fun o => plainS o.2.2) = false) : opsText l = [] := by
  unfold opsText; rw [if_neg]; rintro ⟨h1, h2⟩; rcases h with h | h <;> simp_all

set_option maxRecDepth 100000 in
set_option maxHeartbeats 4000000 in
theorem spec_opsText (b len cap : Nat) (l : List Od) (w : World) (h : SlO w (some ⟨b, 0, none⟩) len l) (hks : ∀ p ∈ l, p.2.1.size ≤ 1099511627776) :
    Calls Try.prog 12 #[.slice (some ⟨b, 0, none⟩) len cap] w fun e w' => e = .returned (.string ⟨(opsText l).toArray⟩) ∧ Below w.heap.size w w' := by
  have hl := h.1
  subst hl
  have HO := spec_opsOk b 0 l.length cap l w h hks
  cases hq : opsOk l
  · rw [hq] at HO
    have HO := Hid.mk' HO
    have HF : Hid (opsText l = []) := opsText_no (.inl hq)
    clear hq
    go_enter Try.func12, Try.ntmps12
    go_wp2_with fail
    refine HO.out.mono ?_
    rintro e w1 ⟨rfl, hB1⟩
    go_wp2_with fail
    go_ret
    exact ⟨ret_str (by rw [HF.out]), hB1⟩
  · rw [hq] at HO
    have HO := Hid.mk' HO
    have hrm := texts_room hq
    obtain ⟨⟨hall, _⟩, hl1, hl8⟩ := (opsOk_iff l).1 hq
    have HALL := Hid.mk' hall
    obtain ⟨K, hK⟩ : ∃ K, (l.all fun o => plainS o.2.2) = K := ⟨_, rfl⟩
    have HPK := Hid.mk' hK
    have HQ := Hid.mk' hq
    have HP0 : Hid (Plains l K 0) := by show _ = _; rw [List.drop_zero]; exact hK
    clear hq hK hall
    go_enter Try.func12, Try.ntmps12
    go_wp2_with fail
    refine HO.out.mono ?_
    rintro e w1 ⟨rfl, hB1⟩
    go_wp2_with fail
    go_loopw [3, 4] (fun t i wr => ∃ k : Nat, i = .int .i64 (k : Int) ∧ k ≤ l.length ∧ t = .string (jn (l.map odText) k) ∧ Plains l K k ∧ Below w.heap.size w wr) (fun t i _ => l.length - (intOf i).toNat)
    case atStart => exact ⟨0, rfl, Nat.zero_le _, rfl, HP0.out, hB1⟩
    case round =>
      obtain ⟨k, rfl, hk, rfl, hpl, hB⟩ := hrel
      clear HP0 hB1
      have HPL := Hid.mk' hpl
      clear hpl
      by_cases hlt : k < l.length
      · have hki : (k : Int) < (l.length : Int) := by omega
        have hS := h.below hB
        obtain ⟨c0, c1, c2⟩ := hS.cells k hlt
        simp only [Nat.zero_add] at c0 c1 c2
        have hod := HALL.out _ (List.getElem_mem hlt)
        obtain ⟨⟨hk1, hk3⟩, _, hkk, hkv⟩ := (odOk_iff _).1 hod
        have hkz := keyOk_size hkk
        have hsz := jn_size (l.map odText) k
        have hlm : k < (l.map odText).length := by simpa using hlt
        have HCL := fun W => spec_plain l[k].2.2 W (by omega)
        obtain ⟨o, hko⟩ : ∃ o, l[k] = o := ⟨_, rfl⟩
        have hgm : (l.map odText)[k] = odText o := by rw [List.getElem_map, hko]
        rw [hko] at c0 c1 c2 hk1 hk3 hkv hkz HCL
        have HCL := Hid.mk' HCL
        clear hS hod hkk
        by_cases h0 : k = 0
        · have HNX : Hid ((jn (l.map odText) (k + 1)).data.toList = (jn (l.map odText) k).data.toList ++ odText o) := by
            show _ = _
            subst h0
            rw [jn_first _ hlm, hgm, jn_zero]; simp
          have hkg : ¬ (0 : Int) < (k : Int) := by omega
          have hkg2 : decide ((0 : Int) < (k : Int)) = false := by simp; omega
          have hk0n : decide (0 < k) = false := by simp; omega
          obtain ⟨u, hu⟩ : ∃ u, jn (l.map odText) k = u := ⟨_, rfl⟩
          rw [hu] at HNX hsz ⊢
          have hszu : u.size ≤ 500 := by omega
          have hsz3 : u.size ≤ 500 := hszu
          have hcur := hu
          clear hu hsz hrm h0 hgm
          cases hpl : plainS o.2.2
          · have HF := Hid.mk' (plains_no HPL.out hlt (by rw [hko]; exact hpl))
            rw [hpl] at HCL
            clear hpl hcur
            go_wp2_with fail
            refine (HCL.out _).mono ?_
            rintro e w2 ⟨rfl, rfl⟩
            go_wp2_with fail
            go_ret
            exact ⟨ret_str (by rw [opsText_no (.inr (HPK.out.trans HF.out))]), hB⟩
          · have HY := Hid.mk' (plains_yes HPL.out hlt (by rw [hko]; exact hpl))
            rw [hpl] at HCL
            clear hpl
            by_cases h1 : o.1 = 1
            · obtain ⟨u1, hu1⟩ : ∃ u1, u1 = u ++ o.2.1 := ⟨_, rfl⟩
              obtain ⟨u2, hu2⟩ : ∃ u2, u2 = u1 ++ (⟨#[61]⟩ : ByteArray) := ⟨_, rfl⟩
              obtain ⟨u3, hu3⟩ : ∃ u3, u3 = u2 ++ o.2.2 := ⟨_, rfl⟩
              have s1 := app_size hu1
              have s2 : u2.size = u1.size + 1 := app_size hu2
              have a1 := add_str u o.2.1 u1 hu1 (by omega)
              have a2 := add_str u1 ⟨#[61]⟩ u2 hu2 (by show u1.size + 1 ≤ _; omega)
              have a3 := add_str u2 o.2.2 u3 hu3 (by omega)
              have HJ : Hid (u3 = jn (l.map odText) (k + 1)) := by
                show _ = _
                apply bytes_ext
                rw [HNX.out, app_list hu3, app_list hu2, app_list hu1]
                simp [odText, h1]
              clear hu1 hu2 hu3 s1 s2
              have hkd : ((o.1 : Int) == 1) = true := by rw [h1]; rfl
              have hkd2 : ((o.1 : Int) == 2) = false := by rw [h1]; rfl
              clear hcur hsz3 hszu
              go_wp2_with fail
              refine (HCL.out _).mono ?_
              rintro e w2 ⟨rfl, rfl⟩
              go_wp2_with fail
              go_quiet (fail)
              go_wp2_with fail
              go_roundw
              case rel => exact ⟨k + 1, by go_num, by omega, by rw [HJ.out], HY.out, below_drewN hB _⟩
              case measure => simp [intOf]; omega
            · by_cases h2 : o.1 = 2
              · obtain ⟨u1, hu1⟩ : ∃ u1, u1 = u ++ (⟨#[45]⟩ : ByteArray) := ⟨_, rfl⟩
                obtain ⟨u3, hu3⟩ : ∃ u3, u3 = u1 ++ o.2.1 := ⟨_, rfl⟩
                have s1 : u1.size = u.size + 1 := app_size hu1
                have a1 := add_str u ⟨#[45]⟩ u1 hu1 (by show u.size + 1 ≤ _; omega)
                have a2 := add_str u1 o.2.1 u3 hu3 (by omega)
                have HJ : Hid (u3 = jn (l.map odText) (k + 1)) := by
                  show _ = _
                  apply bytes_ext
                  rw [HNX.out, app_list hu3, app_list hu1]
                  simp [odText, h2]
                clear hu1 hu3 s1
                have hkd : ((o.1 : Int) == 1) = false := by rw [h2]; rfl
                have hkd2 : ((o.1 : Int) == 2) = true := by rw [h2]; rfl
                have hn1 : ¬ o.1 = 1 := by omega
                clear hcur hsz3 hszu
                go_wp2_with fail
                refine (HCL.out _).mono ?_
                rintro e w2 ⟨rfl, rfl⟩
                go_wp2_with fail
                go_roundw
                case rel => exact ⟨k + 1, by go_num, by omega, by rw [HJ.out], HY.out, hB⟩
                case measure => simp [intOf]; omega
              · have h3 : o.1 = 3 := by omega
                obtain ⟨u1, hu1⟩ : ∃ u1, u1 = u ++ o.2.1 := ⟨_, rfl⟩
                obtain ⟨u2, hu2⟩ : ∃ u2, u2 = u1 ++ (⟨#[63]⟩ : ByteArray) := ⟨_, rfl⟩
                obtain ⟨u3, hu3⟩ : ∃ u3, u3 = u2 ++ o.2.2 := ⟨_, rfl⟩
                have s1 := app_size hu1
                have s2 : u2.size = u1.size + 1 := app_size hu2
                have a1 := add_str u o.2.1 u1 hu1 (by omega)
                have a2 := add_str u1 ⟨#[63]⟩ u2 hu2 (by show u1.size + 1 ≤ _; omega)
                have a3 := add_str u2 o.2.2 u3 hu3 (by omega)
                have HJ : Hid (u3 = jn (l.map odText) (k + 1)) := by
                  show _ = _
                  apply bytes_ext
                  rw [HNX.out, app_list hu3, app_list hu2, app_list hu1]
                  simp [odText, h3]
                clear hu1 hu2 hu3 s1 s2
                have hkd : ((o.1 : Int) == 1) = false := by rw [h3]; rfl
                have hkd2 : ((o.1 : Int) == 2) = false := by rw [h3]; rfl
                have hn1 : ¬ o.1 = 1 := by omega
                have hn2 : ¬ o.1 = 2 := by omega
                clear hcur hsz3 hszu
                go_wp2_with fail
                refine (HCL.out _).mono ?_
                rintro e w2 ⟨rfl, rfl⟩
                go_wp2_with fail
                go_quiet (fail)
                go_wp2_with fail
                go_roundw
                case rel => exact ⟨k + 1, by go_num, by omega, by rw [HJ.out], HY.out, below_drewN hB _⟩
                case measure => simp [intOf]; omega
        · have hjm := jn_more (l.map odText) k hlm (by omega)
          rw [hgm] at hjm
          have hkg : (0 : Int) < (k : Int) := by omega
          have hkg2 : decide ((0 : Int) < (k : Int)) = true := by simp; omega
          have hk0n : decide (0 < k) = true := by simp; omega
          obtain ⟨t, ht⟩ : ∃ t, jn (l.map odText) k = t := ⟨_, rfl⟩
          rw [ht] at hjm hsz ⊢
          obtain ⟨u, hu⟩ : ∃ u, u = t ++ (⟨#[32]⟩ : ByteArray) := ⟨_, rfl⟩
          have s0 : u.size = t.size + 1 := app_size hu
          have a0 := add_str t ⟨#[32]⟩ u hu (by show t.size + 1 ≤ _; omega)
          have HNX : Hid ((jn (l.map odText) (k + 1)).data.toList = u.data.toList ++ odText o) := by
            show _ = _
            rw [hjm, app_list hu]; simp
          have hszu : u.size ≤ 500 := by omega
          have hsz3 : u.size ≤ 500 := hszu
          have hcur := ht
          clear hu ht hsz hrm s0 hjm h0 hgm
          cases hpl : plainS o.2.2
          · have HF := Hid.mk' (plains_no HPL.out hlt (by rw [hko]; exact hpl))
            rw [hpl] at HCL
            clear hpl hcur
            go_wp2_with fail
            refine (HCL.out _).mono ?_
            rintro e w2 ⟨rfl, rfl⟩
            go_wp2_with fail
            go_ret
            exact ⟨ret_str (by rw [opsText_no (.inr (HPK.out.trans HF.out))]), hB⟩
          · have HY := Hid.mk' (plains_yes HPL.out hlt (by rw [hko]; exact hpl))
            rw [hpl] at HCL
            clear hpl
            by_cases h1 : o.1 = 1
            · obtain ⟨u1, hu1⟩ : ∃ u1, u1 = u ++ o.2.1 := ⟨_, rfl⟩
              obtain ⟨u2, hu2⟩ : ∃ u2, u2 = u1 ++ (⟨#[61]⟩ : ByteArray) := ⟨_, rfl⟩
              obtain ⟨u3, hu3⟩ : ∃ u3, u3 = u2 ++ o.2.2 := ⟨_, rfl⟩
              have s1 := app_size hu1
              have s2 : u2.size = u1.size + 1 := app_size hu2
              have a1 := add_str u o.2.1 u1 hu1 (by omega)
              have a2 := add_str u1 ⟨#[61]⟩ u2 hu2 (by show u1.size + 1 ≤ _; omega)
              have a3 := add_str u2 o.2.2 u3 hu3 (by omega)
              have HJ : Hid (u3 = jn (l.map odText) (k + 1)) := by
                show _ = _
                apply bytes_ext
                rw [HNX.out, app_list hu3, app_list hu2, app_list hu1]
                simp [odText, h1]
              clear hu1 hu2 hu3 s1 s2
              have hkd : ((o.1 : Int) == 1) = true := by rw [h1]; rfl
              have hkd2 : ((o.1 : Int) == 2) = false := by rw [h1]; rfl
              clear hcur hsz3 hszu
              go_wp2_with fail
              refine (HCL.out _).mono ?_
              rintro e w2 ⟨rfl, rfl⟩
              go_wp2_with fail
              go_quiet (fail)
              go_wp2_with fail
              go_roundw
              case rel => exact ⟨k + 1, by go_num, by omega, by rw [HJ.out], HY.out, below_drewN hB _⟩
              case measure => simp [intOf]; omega
            · by_cases h2 : o.1 = 2
              · obtain ⟨u1, hu1⟩ : ∃ u1, u1 = u ++ (⟨#[45]⟩ : ByteArray) := ⟨_, rfl⟩
                obtain ⟨u3, hu3⟩ : ∃ u3, u3 = u1 ++ o.2.1 := ⟨_, rfl⟩
                have s1 : u1.size = u.size + 1 := app_size hu1
                have a1 := add_str u ⟨#[45]⟩ u1 hu1 (by show u.size + 1 ≤ _; omega)
                have a2 := add_str u1 o.2.1 u3 hu3 (by omega)
                have HJ : Hid (u3 = jn (l.map odText) (k + 1)) := by
                  show _ = _
                  apply bytes_ext
                  rw [HNX.out, app_list hu3, app_list hu1]
                  simp [odText, h2]
                clear hu1 hu3 s1
                have hkd : ((o.1 : Int) == 1) = false := by rw [h2]; rfl
                have hkd2 : ((o.1 : Int) == 2) = true := by rw [h2]; rfl
                have hn1 : ¬ o.1 = 1 := by omega
                clear hcur hsz3 hszu
                go_wp2_with fail
                refine (HCL.out _).mono ?_
                rintro e w2 ⟨rfl, rfl⟩
                go_wp2_with fail
                go_roundw
                case rel => exact ⟨k + 1, by go_num, by omega, by rw [HJ.out], HY.out, hB⟩
                case measure => simp [intOf]; omega
              · have h3 : o.1 = 3 := by omega
                obtain ⟨u1, hu1⟩ : ∃ u1, u1 = u ++ o.2.1 := ⟨_, rfl⟩
                obtain ⟨u2, hu2⟩ : ∃ u2, u2 = u1 ++ (⟨#[63]⟩ : ByteArray) := ⟨_, rfl⟩
                obtain ⟨u3, hu3⟩ : ∃ u3, u3 = u2 ++ o.2.2 := ⟨_, rfl⟩
                have s1 := app_size hu1
                have s2 : u2.size = u1.size + 1 := app_size hu2
                have a1 := add_str u o.2.1 u1 hu1 (by omega)
                have a2 := add_str u1 ⟨#[63]⟩ u2 hu2 (by show u1.size + 1 ≤ _; omega)
                have a3 := add_str u2 o.2.2 u3 hu3 (by omega)
                have HJ : Hid (u3 = jn (l.map odText) (k + 1)) := by
                  show _ = _
                  apply bytes_ext
                  rw [HNX.out, app_list hu3, app_list hu2, app_list hu1]
                  simp [odText, h3]
                clear hu1 hu2 hu3 s1 s2
                have hkd : ((o.1 : Int) == 1) = false := by rw [h3]; rfl
                have hkd2 : ((o.1 : Int) == 2) = false := by rw [h3]; rfl
                have hn1 : ¬ o.1 = 1 := by omega
                have hn2 : ¬ o.1 = 2 := by omega
                clear hcur hsz3 hszu
                go_wp2_with fail
                refine (HCL.out _).mono ?_
                rintro e w2 ⟨rfl, rfl⟩
                go_wp2_with fail
                go_quiet (fail)
                go_wp2_with fail
                go_roundw
                case rel => exact ⟨k + 1, by go_num, by omega, by rw [HJ.out], HY.out, below_drewN hB _⟩
                case measure => simp [intOf]; omega
      · have hki : ¬ (k : Int) < (l.length : Int) := by omega
        have HT := Hid.mk' (plains_end HPL.out (by omega))
        obtain rfl : k = l.length := by omega
        go_wp2_with fail
        go_ret
        exact ⟨ret_str (opsText_yes HQ.out (HPK.out.trans HT.out)).symm, hB⟩

end Go.Proofs.Ytefjbpkomphjdaa.txts

namespace Go.Proofs.Ytefjbpkomphjdaa.txts
open Go Go.RowKit Go.Proofs.Ytefjbpkomphjdaa.base Go.Proofs.Ytefjbpkomphjdaa.pairs Go.Proofs.Ytefjbpkomphjdaa.ords Go.Proofs.Ytefjbpkomphjdaa.draw
set_option linter.unusedVariables false
set_option linter.unusedSimpArgs false

def GotST (w : World) (e : Ending) (w' : World) : Prop := ∃ z : ByteArray, z.size ≤ 1000 ∧ e = .returned (.string z) ∧ Below w.heap.size w w'
theorem some_atZ (zs : Array Value) (n : Nat) (N : Nat) (h : (List.range n).all (fun i => match zs[i]? with | some (.string z) => decide (z.size ≤ N) | _ => false) = true) : ∀ i, i < n → ∃ z, zs[i]? = some (.string z) ∧ z.size ≤ N := by
  intro i hi
  have := List.all_eq_true.1 h i (List.mem_range.2 hi)
  split at this
  · rename_i z hz; exact ⟨z, hz, of_decide_eq_true this⟩
  · cases this
set_option maxRecDepth 100000 in
set_option maxHeartbeats 1000000 in
theorem drawParseOps (a : Option Addr) (len cap : Nat) (code : List UInt8) (w : World) (h : Sl w a len code) (hln : len ≤ 1099511627776) :
    Calls Try.prog 15 #[.slice a len cap] w fun e w' => GotST w e w' := by
  go_enter Try.func15, Try.ntmps15
  go_wp2_with fail
  refine (new_ w w a len cap code h (Below.refl _ _) hln).mono ?_
  rintro e w1 ⟨rfl, hC1, hB1⟩
  go_wp2_with fail
  refine (d_ops w _ _ a len cap code hC1).mono ?_
  rintro e w2 ⟨g, n, cp, l, hn, hok, rfl, hO2, hC2, hG2⟩
  obtain ⟨⟨hall, _⟩, _, _⟩ := (opsOk_iff l).1 hok
  have hsz : (⟨(opsText l).toArray⟩ : ByteArray).size ≤ 400 := by
    rw [ba_size]
    have h1 := texts_room hok
    have h2 := join_room (l.map odText)
    unfold opsText
    split
    · omega
    · simp
  have HS := Hid.mk' (spec_opsText g n cp l w2 hO2.sl (fun p hp => by have := keyOk_size ((odOk_iff p).1 (hall p hp)).2.2.1; omega))
  generalize (⟨(opsText l).toArray⟩ : ByteArray) = T at *
  clear hok hall hO2
  go_wp2_with fail
  refine HS.out.mono ?_
  rintro e w3 ⟨rfl, hB3⟩
  have hC3 := hC2.below hB3
  clear hC2 hG2 hB3
  go_wp2_with fail
  refine (below_ w _ _ a len cap code _ hC3 (by omega) (by omega)).mono ?_
  rintro e w4 ⟨x, hx, rfl, hC4, hG4⟩
  have hB4 := hC4.bel
  clear hC3 hG4
  by_cases x0 : x = 0
  · subst x0
    have hne := curNe hC4
    go_wp2_with fail
    refine (str_ w _ _ a len cap code w4.heap.size 12 _ _ _ (hC4.below ((Below.refl _ _).alloc (Nat.le_refl _) _)) (heap_alloc_new w4 _) rfl (by omega) (by omega) hne (fun z => z.size ≤ 100) (some_atZ _ 12 100 (by kernel_rfl))).mono ?_
    rintro e w5 ⟨z, hz, rfl, hC5, hG5⟩
    go_wp2_with fail
    go_ret
    exact ⟨z, by omega, rfl, hC5.bel⟩
  · have e1 : ((x : Int) == 0) = false := by simp; omega
    by_cases x1 : x = 1
    · subst x1
      go_wp2_with fail
      refine (below_ w _ _ a len cap code _ hC4 (by omega) (by omega)).mono ?_
      rintro e w5 ⟨y, hy, rfl, hC5, hG5⟩
      have hyc : (0 : Int) ≤ (y : Int) ∧ (y : Int) ≤ (T.size : Int) := by omega
      have hs1 : ∀ W, (Instr.slice 9 (.string T) none (some (.int .i64 (y : Int))) none).run Try.prog W = .ok (.string (T.extract 0 y)) W := fun W => by
        rw [run_slice_string_to_if W 9 T .i64 (y : Int) Try.underlying9, if_pos hyc]; rfl
      have hz : (T.extract 0 y).size ≤ 1000 := by rw [extract_begun, ba_size]; unfold begun; have := size_len T; simp; omega
      go_wp2_with fail
      go_ret
      exact ⟨_, hz, rfl, hC5.bel⟩
    · have e2 : ((x : Int) == 1) = false := by simp; omega
      go_wp2_with fail
      go_ret
      exact ⟨T, by omega, rfl, hB4⟩

end Go.Proofs.Ytefjbpkomphjdaa.txts

namespace Go.Proofs.Ytefjbpkomphjdaa.base
open Go.RowKit
set_option linter.unusedVariables false
set_option linter.unusedSimpArgs false

def Bts (w : World) (g : Nat) (s : ByteArray) : Prop := g < w.heap.size ∧ ∀ j (h : j < s.size), w.cell? ⟨g, j, none⟩ = some (.int .u8 (s[j].toNat : Int))
theorem bts_new (w : World) (s : ByteArray) : Bts (Lib.bytesWorld w 5 s) w.heap.size s := by
  refine ⟨by rw [Lib.bytesWorld_size]; omega, fun j h => ?_⟩
  rw [Lib.bytesWorld_cell w 5 s j h]; simp [List.getD, h]; rfl
theorem Bts.grown {w w' : World} {g g2 : Nat} {s : ByteArray} (h : Bts w g s) (hg : w.grownBy w' (some g2)) (hne : g ≠ g2) : Bts w' g s :=
  ⟨Nat.lt_of_lt_of_le h.1 hg.size, fun j hj => hg.cell (h.2 j hj) (by simpa using hne)⟩
theorem Bts.below {w w' : World} {g : Nat} {s : ByteArray} (h : Bts w g s) (hb : Below w.heap.size w w') : Bts w' g s :=
  ⟨Nat.lt_of_lt_of_le h.1 hb.size, fun j hj => (hb.cell (p := ⟨g, j, none⟩) h.1).trans (h.2 j hj)⟩

end Go.Proofs.Ytefjbpkomphjdaa.base

namespace Go.Proofs.Ytefjbpkomphjdaa.pairs
open Go Go.RowKit Go.Proofs.Ytefjbpkomphjdaa.base
set_option linter.unusedVariables false
set_option linter.unusedSimpArgs false

set_option maxHeartbeats 400000 in
theorem i_keySign (c : Nat) (w : World) (hc : c < 256) :
    Calls Try.prog 73 #[.int .u8 (c : Int)] w fun e w' => e = .returned (.bool (keyCh c)) ∧ w' = w := by
  by_cases h1 : 97 ≤ c
  · by_cases h2 : c ≤ 122
    · go_enter Try.func73, Try.ntmps73
      go_wp2
      go_ret
      exact ⟨ret_bool (by simp [keyCh, h1, h2]), rfl⟩
    · have h3 : ¬ c ≤ 57 := by omega
      have h4 : 48 ≤ c := by omega
      go_enter Try.func73, Try.ntmps73
      go_wp2
      go_ret
      exact ⟨ret_bool (by simp [keyCh, h2, h3]; omega), rfl⟩
  · by_cases h2 : 48 ≤ c
    · by_cases h3 : c ≤ 57
      · go_enter Try.func73, Try.ntmps73
        go_wp2
        go_ret
        exact ⟨ret_bool (by simp [keyCh, h2, h3]; omega), rfl⟩
      · go_enter Try.func73, Try.ntmps73
        go_wp2
        go_ret
        exact ⟨ret_bool (by simp [keyCh, h1, h3]; omega), rfl⟩
    · go_enter Try.func73, Try.ntmps73
      go_wp2
      go_ret
      exact ⟨ret_bool (by simp [keyCh, h1, h2]), rfl⟩

set_option maxRecDepth 100000 in
set_option maxHeartbeats 1000000 in
theorem impl_keyOk (s : ByteArray) (w : World) (hs : s.size ≤ 1099511627776) :
    Calls Try.prog 66 #[.string s] w fun e w' => e = .returned (.bool (keyOk s)) ∧ Below w.heap.size w w' := by
  by_cases h0 : s.size < 1
  · go_enter Try.func66, Try.ntmps66
    go_wp2_with fail
    go_ret
    exact ⟨ret_bool (by simp [keyOk]; omega), Below.refl _ _⟩
  by_cases h12 : 12 < s.size
  · go_enter Try.func66, Try.ntmps66
    go_wp2_with fail
    go_ret
    exact ⟨ret_bool (by simp [keyOk]; omega), Below.refl _ _⟩
  have HZ : Hid (decide (1 ≤ s.size ∧ s.size ≤ 12) = true) := by show _ = _; simp; omega
  generalize hR : keyAll s.data.toList = R
  have HR := Hid.mk' hR
  clear hR
  have hconv := Lib.run_convert_string_bytes (P := Try.prog) w 9 22 5 s Try.underlying9 Try.underlying22 Try.underlying5
  have hbts := bts_new w s
  have hBB := below_bytesWorld w 5 s
  go_enter Try.func66, Try.ntmps66
  go_wp2_with fail
  generalize Lib.bytesWorld w 5 s = w1 at *
  go_loop [16] (fun i => ∃ k : Nat, k ≤ s.size ∧ i = .int .i64 (k : Int) ∧ keyAll (s.data.toList.drop k) = R) (fun i => s.size - (intOf i).toNat)
  case atStart => exact ⟨0, Nat.zero_le _, rfl, HR.out⟩
  case round =>
    obtain ⟨k, hk, rfl, hr⟩ := hrel
    clear hconv
    by_cases hlt : k < s.size
    · have hst := keyAll_drop s k hlt
      rw [hr] at hst
      have hc := s[k].toNat_lt
      have hcl := hbts.2 k hlt
      generalize hC : s[k].toNat = c at *
      have hki : (k : Int) < (s.size : Int) := by omega
      have hl := i_keySign c w1 (by omega)
      cases hq : keyCh c
      · rw [hq] at hl hst
        have HF : Hid (R = false) := by show _ = _; simpa using hst
        have HL := Hid.mk' hl
        clear hl hst hr hC
        go_wp2_with fail
        refine HL.out.mono ?_
        rintro e w2 ⟨rfl, rfl⟩
        go_wp2_with fail
        go_ret
        exact ⟨ret_bool (by unfold keyOk; rw [HR.out, HF.out]; rfl), hBB⟩
      · rw [hq] at hl hst
        have HF : Hid (keyAll (s.data.toList.drop (k + 1)) = R) := by show _ = _; simpa using hst.symm
        have HL := Hid.mk' hl
        clear hl hst hr hC
        go_wp2_with fail
        refine HL.out.mono ?_
        rintro e w2 ⟨rfl, rfl⟩
        go_wp2_with fail
        go_round
        case rel => exact ⟨k + 1, by omega, by go_num, HF.out⟩
        case measure => simp [intOf]; omega
    · have HF : Hid (R = true) := by show _ = _; rw [← hr, List.drop_eq_nil_of_le (by simp; omega)]; rfl
      clear hr
      go_wp2_with fail
      go_ret
      exact ⟨ret_bool (by unfold keyOk; rw [HR.out, HF.out, HZ.out]; rfl), hBB⟩

set_option maxHeartbeats 400000 in
theorem impl_pairOk (p : Pr) (w : World) (hp : small p) (hs : p.1.size ≤ 1099511627776) :
    Calls Try.prog 65 #[.agg #[.string p.1, .string p.2]] w fun e w' => e = .returned (.bool (pairOk p)) ∧ Below w.heap.size w w' := by
  have h2 := hp.2
  unfold maxLen at h2
  have hba : Below w.heap.size w (w.alloc (.cells #[.string p.1, .string p.2] 36)) := (Below.refl _ _).alloc (Nat.le_refl _) _
  have hk := impl_keyOk p.1 (w.alloc (.cells #[.string p.1, .string p.2] 36)) hs
  cases hK : keyOk p.1
  · rw [hK] at hk
    have HK := Hid.mk' hk
    have H1 := Hid.mk' hK
    clear hk hK
    go_enter Try.func65, Try.ntmps65
    go_wp2_with fail
    refine HK.out.mono ?_
    rintro e w1 ⟨rfl, hb1⟩
    go_wp2_with fail
    go_ret
    exact ⟨ret_bool (by unfold pairOk; rw [H1.out]; rfl), hba.trans (hb1.mono hba.size)⟩
  · rw [hK] at hk
    have HK := Hid.mk' hk
    have H1 := Hid.mk' hK
    clear hk hK
    go_enter Try.func65, Try.ntmps65
    go_wp2_with fail
    refine HK.out.mono ?_
    rintro e w1 ⟨rfl, hb1⟩
    have hc := bcell hb1
    go_wp2_with fail
    go_ret
    exact ⟨ret_bool (by unfold pairOk; rw [H1.out]; simp; omega), hba.trans (hb1.mono hba.size)⟩

end Go.Proofs.Ytefjbpkomphjdaa.pairs
