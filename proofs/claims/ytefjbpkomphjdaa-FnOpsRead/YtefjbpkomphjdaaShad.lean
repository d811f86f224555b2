/- Plain mathematics of statements: orders and pairs as texts, the words of a text, and that they come back. The specification's statements: what is plain, the words of a text. -/
import Derived.Test.YtefjbpkomphjdaaShab
import Derived.Lib.Join
import Derived.Test.YtefjbpkomphjdaaShaa
import Derived.Lib.Strings
namespace Go.Proofs.Ytefjbpkomphjdaa.txts
open Go Go.Proofs.Ytefjbpkomphjdaa.pairs Go.Proofs.Ytefjbpkomphjdaa.ords
set_option linter.unusedVariables false

def splitGo (by_ : UInt8) : List UInt8 → List UInt8 → List (List UInt8)
  | cur, [] => [cur]
  | cur, c :: l => if c = by_ then cur :: splitGo by_ [] l else splitGo by_ (cur ++ [c]) l
def plainS (s : ByteArray) : Bool := keyAll s.data.toList && decide (s.size ≤ 20)
def opGo : List UInt8 → List UInt8 → Option Od
  | _, [] => none
  | pre, c :: l => if c = 61 ∨ c = 63 then (if plainS ⟨l.toArray⟩ = true then some (if c = 61 then 1 else 3, ⟨pre.toArray⟩, ⟨l.toArray⟩) else none) else opGo (pre ++ [c]) l
def wordOp : List UInt8 → Option Od
  | [] => none
  | c :: l => if c = 45 then some (2, ⟨l.toArray⟩, ⟨#[]⟩) else opGo [] (c :: l)
def allOf {α β : Type} (f : α → Option β) : List α → Option (List β)
  | [] => some []
  | a :: l => match f a with | none => none | some b => match allOf f l with | none => none | some m => some (b :: m)
def onlyOk (l : List Od) : Option (List Od) := if opsOk l = true then some l else none
def parseOps (s : List UInt8) : Option (List Od) := (allOf wordOp (splitGo 32 [] s)).bind onlyOk
def odText (o : Od) : List UInt8 :=
  if o.1 = 1 then o.2.1.data.toList ++ 61 :: o.2.2.data.toList else if o.1 = 2 then 45 :: o.2.1.data.toList else o.2.1.data.toList ++ 63 :: o.2.2.data.toList
def opsText (l : List Od) : List UInt8 := if opsOk l = true ∧ (l.all fun o => plainS o.2.2) = true then Lib.join (l.map odText) [32] else []
def prText (p : Pr) : List UInt8 := p.1.data.toList ++ 61 :: p.2.data.toList
/-! ### what the signs of a word tell, one by one -/
abbrev init : Od := (0, ⟨#[]⟩, ⟨#[]⟩)
def step (t : Option Od) (c : UInt8) : Option Od :=
  match t with
  | none => none
  | some o =>
    if c = 45 ∧ o = init then some (2, ⟨#[]⟩, ⟨#[]⟩)
    else if c = 61 ∧ o.1 = 0 then some (1, o.2.1, ⟨#[]⟩)
    else if c = 63 ∧ o.1 = 0 then some (3, o.2.1, ⟨#[]⟩)
    else if keyCh c.toNat = true then
      if o.1 = 1 ∨ o.1 = 3 then (if o.2.2.size = 20 then none else some (o.1, o.2.1, ⟨(o.2.2.data.toList ++ [c]).toArray⟩))
      else (if o.2.1.size = 12 then none else some (o.1, ⟨(o.2.1.data.toList ++ [c]).toArray⟩, o.2.2))
    else none
def tell (w : List UInt8) : Option Od := w.foldl step (some init)
def go : List Od → Option Od → List UInt8 → Option (List Od)
  | acc, t, [] => (match t with | none => none | some o => some (acc ++ [o]))
  | acc, t, c :: l => if c = 32 then (match t with | none => none | some o => go (acc ++ [o]) (some init) l) else go acc (step t c) l

theorem go_nil (acc : List Od) (t : Option Od) : go acc t [] = match t with | none => none | some o => some (acc ++ [o]) := by cases t <;> rfl
theorem go_cons (acc : List Od) (t : Option Od) (c : UInt8) (l : List UInt8) : go acc t (c :: l) = if c = 32 then (match t with | none => none | some o => go (acc ++ [o]) (some init) l) else go acc (step t c) l := by cases t <;> rfl
theorem fold_none (l : List UInt8) : l.foldl step none = none := by
  induction l with
  | nil => rfl
  | cons c l ih => exact ih
def okW : Option Od → Option Od
  | none => none
  | some o => if odOk o = true then some o else none
theorem ba_size (l : List UInt8) : (⟨l.toArray⟩ : ByteArray).size = l.length := by simp [ByteArray.size]
theorem size_len (s : ByteArray) : s.data.toList.length = s.size := by rw [Array.length_toList]; rfl
theorem keyOk_mk (l : List UInt8) : keyOk ⟨l.toArray⟩ = (keyAll l && decide (1 ≤ l.length ∧ l.length ≤ 12)) := by
  unfold keyOk; rw [ba_size]
theorem keyAll_app (a b : List UInt8) : keyAll (a ++ b) = (keyAll a && keyAll b) := by unfold keyAll; rw [List.all_append]
theorem keyAll_cons (c : UInt8) (l : List UInt8) : keyAll (c :: l) = (keyCh c.toNat && keyAll l) := rfl

theorem fold_key (l : List UInt8) (key : List UInt8) (h : key.length ≤ 12) :
    okW (l.foldl step (some (2, ⟨key.toArray⟩, ⟨#[]⟩))) = if keyAll l = true ∧ key.length + l.length ≤ 12 then okW (some (2, ⟨(key ++ l).toArray⟩, ⟨#[]⟩)) else none := by
  induction l generalizing key with
  | nil => rw [if_pos ⟨rfl, by simpa using h⟩, List.append_nil]; rfl
  | cons c l ih =>
    rw [List.foldl_cons, keyAll_cons]
    have hs : step (some (2, ⟨key.toArray⟩, ⟨#[]⟩)) c = if keyCh c.toNat = true then (if key.length = 12 then none else some (2, ⟨(key ++ [c]).toArray⟩, ⟨#[]⟩)) else none := by
      simp only [step]
      rw [if_neg (by rintro ⟨_, e⟩; simp [init] at e), if_neg (by rintro ⟨_, e⟩; simp at e), if_neg (by rintro ⟨_, e⟩; simp at e), if_neg (by decide : ¬ ((2 : Int) = 1 ∨ (2 : Int) = 3)), ba_size]
    rw [hs]
    cases hk : keyCh c.toNat
    · simp [fold_none, okW]
    · simp only [if_true, Bool.true_and, List.length_cons]
      by_cases h12 : key.length = 12
      · rw [if_pos h12, fold_none, if_neg (by omega)]; rfl
      · rw [if_neg h12, ih (key ++ [c]) (by simp; omega)]
        simp only [List.length_append, List.length_cons, List.length_nil, List.append_assoc, List.singleton_append]
        by_cases hx : keyAll l = true ∧ key.length + (0 + 1) + l.length ≤ 12
        · rw [if_pos hx, if_pos ⟨hx.1, by omega⟩]
        · rw [if_neg hx, if_neg (fun e => hx ⟨e.1, by omega⟩)]
theorem fold_val (k : Int) (hk : k = 1 ∨ k = 3) (key : ByteArray) (l : List UInt8) (val : List UInt8) (h : val.length ≤ 20) :
    l.foldl step (some (k, key, ⟨val.toArray⟩)) = if keyAll l = true ∧ val.length + l.length ≤ 20 then some (k, key, ⟨(val ++ l).toArray⟩) else none := by
  induction l generalizing val with
  | nil => rw [if_pos ⟨rfl, by simpa using h⟩, List.append_nil]; rfl
  | cons c l ih =>
    rw [List.foldl_cons, keyAll_cons]
    have hs : step (some (k, key, ⟨val.toArray⟩)) c = if keyCh c.toNat = true then (if val.length = 20 then none else some (k, key, ⟨(val ++ [c]).toArray⟩)) else none := by
      simp only [step]
      rw [if_neg (by rintro ⟨_, e⟩; simp [init] at e; omega), if_neg (by rintro ⟨_, e⟩; omega), if_neg (by rintro ⟨_, e⟩; omega), if_pos hk, ba_size]
    rw [hs]
    cases hc : keyCh c.toNat
    · simp [fold_none]
    · simp only [if_true, Bool.true_and, List.length_cons]
      by_cases h12 : val.length = 20
      · rw [if_pos h12, fold_none, if_neg (by omega)]
      · rw [if_neg h12, ih (val ++ [c]) (by simp; omega)]
        simp only [List.length_append, List.length_cons, List.length_nil, List.append_assoc, List.singleton_append]
        by_cases hx : keyAll l = true ∧ val.length + (0 + 1) + l.length ≤ 20
        · rw [if_pos hx, if_pos ⟨hx.1, by omega⟩]
        · rw [if_neg hx, if_neg (fun e => hx ⟨e.1, by omega⟩)]
theorem opGo_pre (l pre : List UInt8) (o : Od) (h : opGo pre l = some o) : (1 ≤ o.1 ∧ o.1 ≤ 3 ∧ o.1 ≠ 2) ∧ plainS o.2.2 = true ∧ (∃ m, o.2.1.data.toList = pre ++ m) ∧ odText o = pre ++ l := by
  induction l generalizing pre with
  | nil => simp [opGo] at h
  | cons c l ih =>
    rw [opGo] at h
    split at h
    · next hc =>
      split at h
      · next hp =>
        simp only [Option.some.injEq] at h
        subst h
        rcases hc with rfl | rfl
        · exact ⟨by simp, hp, ⟨[], by simp⟩, by simp [odText]⟩
        · exact ⟨by simp, hp, ⟨[], by simp⟩, by simp [odText]⟩
      · cases h
    · obtain ⟨h1, h2, ⟨m, h3⟩, h4⟩ := ih (pre ++ [c]) h
      exact ⟨h1, h2, ⟨c :: m, by rw [h3]; simp⟩, by rw [h4]; simp⟩
theorem okW_pre (l pre : List UInt8) (h : ¬ (keyAll pre = true ∧ pre.length ≤ 12)) : okW (opGo pre l) = none := by
  cases e : opGo pre l with
  | none => rfl
  | some o =>
    obtain ⟨_, _, ⟨m, h3⟩, _⟩ := opGo_pre l pre o e
    simp only [okW]
    rw [if_neg]
    intro ho
    have hk := ((odOk_iff o).1 ho).2.2.1
    unfold keyOk at hk
    rw [← size_len, h3, keyAll_app] at hk
    simp only [Bool.and_eq_true, decide_eq_true_iff, List.length_append] at hk
    exact h ⟨hk.1.1, by omega⟩
theorem fold_word (l : List UInt8) (pre : List UInt8) (h : pre.length ≤ 12) (hk : keyAll pre = true) (hd : pre = [] → ∀ c m, l = c :: m → c ≠ 45) :
    okW (l.foldl step (some (0, ⟨pre.toArray⟩, ⟨#[]⟩))) = okW (opGo pre l) := by
  induction l generalizing pre with
  | nil => simp [opGo, okW, odOk]
  | cons c l ih =>
    rw [List.foldl_cons, opGo]
    have h45 : ¬ (c = 45 ∧ ((0, ⟨pre.toArray⟩, ⟨#[]⟩) : Od) = init) := by
      rintro ⟨e, e2⟩
      simp [init] at e2
      exact hd e2 c l rfl e
    by_cases h1 : c = 61
    · subst h1
      have hs : step (some (0, ⟨pre.toArray⟩, ⟨#[]⟩)) 61 = some (1, ⟨pre.toArray⟩, ⟨#[]⟩) := by simp only [step]; rw [if_neg h45, if_pos ⟨trivial, trivial⟩]
      rw [hs, if_pos (Or.inl rfl), show (⟨#[]⟩ : ByteArray) = ⟨([] : List UInt8).toArray⟩ from rfl, fold_val 1 (.inl rfl) _ l [] (by decide)]
      simp only [List.nil_append, List.length_nil, Nat.zero_add, plainS, ba_size, Bool.and_eq_true, decide_eq_true_iff, if_true]
    · by_cases h3 : c = 63
      · subst h3
        have hs : step (some (0, ⟨pre.toArray⟩, ⟨#[]⟩)) 63 = some (3, ⟨pre.toArray⟩, ⟨#[]⟩) := by simp only [step]; rw [if_neg h45, if_neg (by simp), if_pos ⟨trivial, trivial⟩]
        rw [hs, if_pos (Or.inr rfl), show (⟨#[]⟩ : ByteArray) = ⟨([] : List UInt8).toArray⟩ from rfl, fold_val 3 (.inr rfl) _ l [] (by decide)]
        simp only [List.nil_append, List.length_nil, Nat.zero_add, plainS, ba_size, Bool.and_eq_true, decide_eq_true_iff, h1, if_false]
      · rw [if_neg (by rintro (e | e); exact h1 e; exact h3 e)]
        have hs : step (some (0, ⟨pre.toArray⟩, ⟨#[]⟩)) c = if keyCh c.toNat = true then (if pre.length = 12 then none else some (0, ⟨(pre ++ [c]).toArray⟩, ⟨#[]⟩)) else none := by
          simp only [step]
          rw [if_neg h45, if_neg (fun e => h1 e.1), if_neg (fun e => h3 e.1), if_neg (by decide : ¬ ((0 : Int) = 1 ∨ (0 : Int) = 3)), ba_size]
        rw [hs]
        cases hc : keyCh c.toNat
        · rw [if_neg (by decide), fold_none, okW_pre l (pre ++ [c]) (by rw [keyAll_app, keyAll_cons, hc]; simp)]
          rfl
        · rw [if_pos rfl]
          by_cases h12 : pre.length = 12
          · rw [if_pos h12, fold_none, okW_pre l (pre ++ [c]) (by rintro ⟨_, e⟩; simp at e; omega)]
            rfl
          · rw [if_neg h12]
            exact ih (pre ++ [c]) (by simp; omega) (by rw [keyAll_app, hk, keyAll_cons, hc]; rfl) (fun e => by simp at e)
theorem tell_word (w : List UInt8) : okW (tell w) = okW (wordOp w) := by
  unfold tell
  cases w with
  | nil => simp [wordOp, okW, odOk, init]
  | cons c l =>
    by_cases hc : c = 45
    · subst hc
      rw [List.foldl_cons]
      have hs : step (some init) 45 = some (2, ⟨([] : List UInt8).toArray⟩, ⟨#[]⟩) := rfl
      rw [hs, fold_key l [] (by decide), wordOp, if_pos rfl]
      simp only [List.nil_append, List.length_nil, Nat.zero_add]
      by_cases hx : keyAll l = true ∧ l.length ≤ 12
      · rw [if_pos hx]
      · rw [if_neg hx]
        simp only [okW]
        rw [if_neg]
        intro ho
        have hk := ((odOk_iff _).1 ho).2.2.1
        rw [keyOk_mk] at hk
        simp only [Bool.and_eq_true, decide_eq_true_iff] at hk
        exact hx ⟨hk.1, hk.2.2⟩
    · rw [wordOp, if_neg hc]
      exact fold_word (c :: l) [] (by decide) rfl (fun _ c' m e => by cases e; exact hc)

/-! ### all words -/
theorem allOf_cons {α β : Type} (f : α → Option β) (a : α) (l : List α) : allOf f (a :: l) = match f a with | none => none | some b => match allOf f l with | none => none | some m => some (b :: m) := rfl
theorem okW_some {t : Option Od} {o : Od} (e : t = some o) (h : odOk o = true) : okW t = some o := by rw [e]; simp only [okW, if_pos h]
theorem okW_none {t : Option Od} {o : Od} (e : t = some o) (h : ¬ odOk o = true) : okW t = none := by rw [e]; simp only [okW, if_neg h]
theorem allOf_okW (f : List UInt8 → Option Od) (ws : List (List UInt8)) : (allOf f ws).bind onlyOk = (allOf (fun w => okW (f w)) ws).bind onlyOk := by
  have h : ∀ l, allOf f ws = some l → (∀ p ∈ l, odOk p = true) → allOf (fun w => okW (f w)) ws = some l := by
    induction ws with
    | nil => intro l h _; exact h
    | cons w ws ih =>
      intro l h hl
      rw [allOf_cons] at h ⊢
      cases e : f w with
      | none => rw [e] at h; cases h
      | some o =>
        rw [e] at h
        cases e2 : allOf f ws with
        | none => rw [e2] at h; cases h
        | some m =>
          rw [e2] at h
          simp only [Option.some.injEq] at h
          subst h
          rw [okW_some (t := some o) rfl (hl o (List.mem_cons_self)), ih m e2 (fun p hp => hl p (List.mem_cons_of_mem _ hp))]
  have h2 : ∀ l, allOf (fun w => okW (f w)) ws = some l → allOf f ws = some l ∧ ∀ p ∈ l, odOk p = true := by
    clear h
    induction ws with
    | nil => intro l h; cases h; exact ⟨rfl, fun p hp => absurd hp List.not_mem_nil⟩
    | cons w ws ih =>
      intro l h
      rw [allOf_cons] at h ⊢
      cases e : f w with
      | none => rw [e] at h; cases h
      | some o =>
        by_cases ho : odOk o = true
        · rw [okW_some e ho] at h
          cases e2 : allOf (fun w => okW (f w)) ws with
          | none => rw [e2] at h; cases h
          | some m =>
            rw [e2] at h
            simp only [Option.some.injEq] at h
            subst h
            obtain ⟨h4, h5⟩ := ih m e2
            rw [h4]
            refine ⟨rfl, fun p hp => ?_⟩
            rcases List.mem_cons.1 hp with rfl | hp
            · exact ho
            · exact h5 p hp
        · rw [okW_none e ho] at h; cases h
  cases e : allOf f ws with
  | none =>
    cases e2 : allOf (fun w => okW (f w)) ws with
    | none => rfl
    | some l => rw [(h2 l e2).1] at e; cases e
  | some l =>
    cases e2 : allOf (fun w => okW (f w)) ws with
    | some m =>
      have := (h2 m e2).1
      rw [e] at this
      cases this
      rfl
    | none =>
      show onlyOk l = none
      unfold onlyOk
      rw [if_neg]
      intro ho
      have := h l e ((opsOk_iff l).1 ho).1.1
      rw [e2] at this
      cases this
theorem go_split (l cur : List UInt8) (acc : List Od) : go acc (tell cur) l = (allOf tell (splitGo 32 cur l)).map (acc ++ ·) := by
  induction l generalizing cur acc with
  | nil =>
    rw [go_nil]
    simp only [splitGo, allOf]
    cases tell cur <;> rfl
  | cons c l ih =>
    rw [go_cons, splitGo]
    by_cases hc : c = 32
    · rw [if_pos hc, if_pos hc]
      simp only [allOf]
      cases e : tell cur with
      | none => rfl
      | some o =>
        have := ih [] (acc ++ [o])
        rw [show tell [] = some init from rfl] at this
        simp only [this]
        cases allOf tell (splitGo 32 [] l) with
        | none => rfl
        | some m => simp
    · rw [if_neg hc, if_neg hc, ← ih (cur ++ [c]) acc]
      congr 1
      unfold tell
      rw [List.foldl_append]
      rfl
theorem parse_go (s : List UInt8) : (go [] (some init) s).bind onlyOk = parseOps s := by
  have h := go_split s [] []
  rw [show tell [] = some init from rfl] at h
  rw [h]
  have e : (allOf tell (splitGo 32 [] s)).map (([] : List Od) ++ ·) = allOf tell (splitGo 32 [] s) := by
    cases allOf tell (splitGo 32 [] s) <;> rfl
  rw [e, allOf_okW tell, parseOps, allOf_okW wordOp]
  congr 2
  funext w
  exact tell_word w
/-! ### they come back -/
theorem split_ne (l cur : List UInt8) : splitGo 32 cur l ≠ [] := by
  induction l generalizing cur with
  | nil => simp [splitGo]
  | cons c l ih => rw [splitGo]; split; simp; exact ih _
theorem join_split (l cur : List UInt8) : Lib.join (splitGo 32 cur l) [32] = cur ++ l := by
  induction l generalizing cur with
  | nil => rw [splitGo, Lib.join_one, List.append_nil]
  | cons c l ih =>
    rw [splitGo]
    by_cases hc : c = 32
    · subst hc
      rw [if_pos rfl]
      have hn := split_ne l []
      obtain ⟨x, r, e⟩ : ∃ x r, splitGo 32 [] l = x :: r := by
        cases h : splitGo 32 [] l with
        | nil => exact absurd h hn
        | cons x r => exact ⟨x, r, rfl⟩
      have hi := ih []
      rw [e, Lib.join_cons] at hi
      rw [e, Lib.join_cons]
      simp only [Lib.joinTail, List.map_cons, List.flatten_cons] at hi ⊢
      simp only [List.nil_append] at hi
      rw [List.append_assoc, hi]
      simp
    · rw [if_neg hc, ih]; simp
theorem allOf_some {α β : Type} (f : α → Option β) (g : β → α) (ws : List α) (l : List β) (h : allOf f ws = some l) (hg : ∀ a b, f a = some b → g b = a) : l.map g = ws := by
  induction ws generalizing l with
  | nil => cases h; rfl
  | cons a ws ih =>
    simp only [allOf] at h
    cases e : f a with
    | none => rw [e] at h; cases h
    | some b =>
      rw [e] at h
      cases e2 : allOf f ws with
      | none => rw [e2] at h; cases h
      | some m =>
        rw [e2] at h
        simp only [Option.some.injEq] at h
        subst h
        rw [List.map_cons, hg a b e, ih m e2]
theorem allOf_all {α β : Type} (f : α → Option β) (q : β → Prop) (ws : List α) (l : List β) (h : allOf f ws = some l) (hg : ∀ a b, f a = some b → q b) : ∀ b ∈ l, q b := by
  induction ws generalizing l with
  | nil => cases h; intro b hb; cases hb
  | cons a ws ih =>
    simp only [allOf] at h
    cases e : f a with
    | none => rw [e] at h; cases h
    | some b =>
      rw [e] at h
      cases e2 : allOf f ws with
      | none => rw [e2] at h; cases h
      | some m =>
        rw [e2] at h
        simp only [Option.some.injEq] at h
        subst h
        intro x hx
        rcases List.mem_cons.1 hx with rfl | hx
        · exact hg a x e
        · exact ih m e2 x hx
theorem word_text (w : List UInt8) (o : Od) (h : wordOp w = some o) : odText o = w ∧ plainS o.2.2 = true := by
  cases w with
  | nil => simp [wordOp] at h
  | cons c l =>
    rw [wordOp] at h
    split at h
    · next hc =>
      simp only [Option.some.injEq] at h
      subst h hc
      exact ⟨by simp [odText], rfl⟩
    · obtain ⟨_, h2, _, h4⟩ := opGo_pre _ _ _ h
      exact ⟨h4, h2⟩
theorem parse_text {s : List UInt8} {l : List Od} (h : parseOps s = some l) : opsOk l = true ∧ opsText l = s := by
  unfold parseOps at h
  cases e : allOf wordOp (splitGo 32 [] s) with
  | none => rw [e] at h; cases h
  | some m =>
    rw [e] at h
    have h' : onlyOk m = some l := h
    unfold onlyOk at h'
    split at h'
    · next ho =>
      cases h'
      refine ⟨ho, ?_⟩
      unfold opsText
      rw [if_pos ⟨ho, List.all_eq_true.2 (allOf_all wordOp (fun o => plainS o.2.2 = true) _ _ e (fun a b hb => (word_text a b hb).2))⟩]
      rw [allOf_some wordOp odText _ _ e (fun a b hb => (word_text a b hb).1), join_split]
      rfl
    · cases h'
end Go.Proofs.Ytefjbpkomphjdaa.txts

namespace Go.Proofs.Ytefjbpkomphjdaa.txts
open Go Go.RowKit Go.Proofs.Ytefjbpkomphjdaa.base Go.Proofs.Ytefjbpkomphjdaa.pairs Go.Proofs.Ytefjbpkomphjdaa.ords
set_option linter.unusedVariables false
set_option linter.unusedSimpArgs false

set_option maxRecDepth 100000 in
set_option maxHeartbeats 1000000 in
theorem spec_plain (s : ByteArray) (w : World) (hs : s.size ≤ 1099511627776) :
    Calls Try.prog 36 #[.string s] w fun e w' => e = .returned (.bool (plainS s)) ∧ w' = w := by
  generalize hR : keyAll s.data.toList = R
  have HR := Hid.mk' hR
  clear hR
  go_enter Try.func36, Try.ntmps36
  go_wp2
  go_loop [3] (fun i => ∃ k : Nat, k ≤ s.size ∧ i = .int .i64 (k : Int) ∧ keyAll (s.data.toList.drop k) = R) (fun i => s.size - (intOf i).toNat)
  case atStart => exact ⟨0, Nat.zero_le _, rfl, HR.out⟩
  case round =>
    obtain ⟨k, hk, rfl, hr⟩ := hrel
    by_cases hlt : k < s.size
    · have hst := keyAll_drop s k hlt
      rw [hr] at hst
      have hc := s[k].toNat_lt
      generalize hC : s[k].toNat = c at *
      have HST := Hid.mk' hst
      have HC := Hid.mk' hC
      clear hst hr
      have hki : (k : Int) < (s.size : Int) := by omega
      by_cases h1 : 97 ≤ c ∧ c ≤ 122
      · have HF : Hid (keyAll (s.data.toList.drop (k + 1)) = R) := by
          show _ = _
          have := HST.out; rw [show keyCh c = true by simp [keyCh, h1]] at this; simpa using this.symm
        have hl := s_inZ (c : Int) 97 122 w
        rw [decide_eq_true (by omega)] at hl
        have HL := Hid.mk' hl
        clear hl HST
        go_wp2_with fail
        refine HL.out.mono ?_
        rintro e w1 ⟨rfl, rfl⟩
        go_wp2_with fail
        go_round
        case rel => exact ⟨k + 1, by omega, by go_num, HF.out⟩
        case measure => simp [intOf]; omega
      · have hl := s_inZ (c : Int) 97 122 w
        rw [decide_eq_false (by omega)] at hl
        have HL := Hid.mk' hl
        clear hl
        by_cases h2 : 48 ≤ c ∧ c ≤ 57
        · have HF : Hid (keyAll (s.data.toList.drop (k + 1)) = R) := by
            show _ = _
            have := HST.out; rw [show keyCh c = true by simp [keyCh, h2]] at this; simpa using this.symm
          have hl := s_inZ (c : Int) 48 57 w
          rw [decide_eq_true (by omega)] at hl
          have HL2 := Hid.mk' hl
          clear hl HST
          go_wp2_with fail
          refine HL.out.mono ?_
          rintro e w1 ⟨rfl, rfl⟩
          go_wp2_with fail
          refine HL2.out.mono ?_
          rintro e w1 ⟨rfl, rfl⟩
          go_wp2_with fail
          go_round
          case rel => exact ⟨k + 1, by omega, by go_num, HF.out⟩
          case measure => simp [intOf]; omega
        · have HF : Hid (R = false) := by
            show _ = _
            have := HST.out; rw [show keyCh c = false by simp only [keyCh, h1, h2]; rfl] at this; simpa using this
          have hl := s_inZ (c : Int) 48 57 w
          rw [decide_eq_false (by omega)] at hl
          have HL2 := Hid.mk' hl
          clear hl HST
          go_wp2_with fail
          refine HL.out.mono ?_
          rintro e w1 ⟨rfl, rfl⟩
          go_wp2_with fail
          refine HL2.out.mono ?_
          rintro e w1 ⟨rfl, rfl⟩
          go_wp2_with fail
          go_ret
          exact ⟨ret_bool (by unfold plainS; rw [HR.out, HF.out]; rfl), rfl⟩
    · have HF : Hid (R = true) := by show _ = _; rw [← hr, List.drop_eq_nil_of_le (by simp; omega)]; rfl
      clear hr
      by_cases h20 : s.size ≤ 20
      · have h20i : (s.size : Int) ≤ 20 := by omega
        go_wp2_with fail
        go_ret
        exact ⟨ret_bool (by unfold plainS; rw [HR.out, HF.out, decide_eq_true h20]; simp [h20i]), rfl⟩
      · have h20i : ¬ (s.size : Int) ≤ 20 := by omega
        go_wp2_with fail
        go_ret
        exact ⟨ret_bool (by unfold plainS; rw [HR.out, HF.out, decide_eq_false h20]; simp [h20i]), rfl⟩

def wordsOf (b : UInt8) (s : ByteArray) : List ByteArray := (splitGo b [] s.data.toList).map fun l => ⟨l.toArray⟩
def begun (s : ByteArray) (f k : Nat) : List UInt8 := (s.data.toList.drop f).take (k - f)
theorem extract_begun (s : ByteArray) (f k : Nat) : s.extract f k = ⟨(begun s f k).toArray⟩ := by
  apply bytes_ext; rw [Lib.extract_data]; rfl
theorem begun_none (s : ByteArray) (k : Nat) : begun s k k = [] := by simp [begun]
theorem begun_more (s : ByteArray) (f k : Nat) (hf : f ≤ k) (hk : k < s.size) : begun s f (k + 1) = begun s f k ++ [s[k]] := by
  unfold begun
  rw [show k + 1 - f = (k - f) + 1 by omega, List.take_succ_eq_append_getElem (by simp; omega)]
  congr 1
  simp only [List.getElem_drop]
  have : f + (k - f) = k := by omega
  simp only [this]
  rfl
theorem begun_size (s : ByteArray) (f k : Nat) (hs : s.size ≤ maxLen) : (s.extract f k).size ≤ maxLen := by
  rw [extract_begun, ba_size]
  unfold begun
  have := size_len s
  simp; omega
def Spl (b : UInt8) (s : ByteArray) (R acc : List ByteArray) (f k : Nat) : Prop :=
  if k ≤ s.size then acc ++ (splitGo b (begun s f k) (s.data.toList.drop k)).map (fun l => (⟨l.toArray⟩ : ByteArray)) = R else acc = R
theorem spl_start (b : UInt8) (s : ByteArray) : Spl b s (wordsOf b s) [] 0 0 := by
  unfold Spl; rw [if_pos (Nat.zero_le _), begun_none]; simp [wordsOf]
theorem spl_word {b : UInt8} {s : ByteArray} {R acc : List ByteArray} {f k : Nat} (h : Spl b s R acc f k) (hk : k < s.size) (hb : s[k] = b) : Spl b s R (acc ++ [s.extract f k]) (k + 1) (k + 1) := by
  unfold Spl at h ⊢
  rw [if_pos (by omega)] at h
  rw [if_pos (by omega), begun_none, ← h, List.drop_eq_getElem_cons (i := k) (by simpa using hk), splitGo, if_pos (show s.data.toList[k] = b from hb), extract_begun]
  simp
theorem spl_more {b : UInt8} {s : ByteArray} {R acc : List ByteArray} {f k : Nat} (h : Spl b s R acc f k) (hf : f ≤ k) (hk : k < s.size) (hb : ¬ s[k] = b) : Spl b s R acc f (k + 1) := by
  unfold Spl at h ⊢
  rw [if_pos (by omega)] at h
  rw [if_pos (by omega), begun_more s f k hf hk, ← h, List.drop_eq_getElem_cons (i := k) (by simpa using hk), splitGo, if_neg (show ¬ s.data.toList[k] = b from hb)]
  rfl
theorem spl_last {b : UInt8} {s : ByteArray} {R acc : List ByteArray} {f : Nat} (h : Spl b s R acc f s.size) : Spl b s R (acc ++ [s.extract f s.size]) (s.size + 1) (s.size + 1) := by
  unfold Spl at h ⊢
  rw [if_pos (Nat.le_refl _), List.drop_eq_nil_of_le (by rw [size_len]; exact Nat.le_refl _), splitGo] at h
  rw [if_neg (by omega), ← h, extract_begun]
  rfl
theorem spl_end {b : UInt8} {s : ByteArray} {R acc : List ByteArray} {f k : Nat} (h : Spl b s R acc f k) (hk : s.size < k) : acc = R := by
  unfold Spl at h; rwa [if_neg (by omega)] at h

set_option maxRecDepth 100000 in
set_option maxHeartbeats 2000000 in
theorem spec_split (s : ByteArray) (b : UInt8) (z : Int) (w : World) (hz : z = (b.toNat : Int)) (hs : s.size ≤ 1099511627776) :
    Calls Try.prog 40 #[.string s, .int .u8 z] w fun e w' => ∃ g n cp, e = .returned (.slice (some ⟨g, 0, none⟩) n cp) ∧ OwnS w' w.heap.size g n cp (wordsOf b s) ∧ Below w.heap.size w w' := by
  subst hz
  generalize hR : wordsOf b s = R
  have HS : Hid (Spl b s R [] 0 0) := hR ▸ spl_start b s
  clear hR
  obtain ⟨i0, hi, hz0, hz1, hz2⟩ := info_parts info9
  go_enter Try.func40, Try.ntmps40
  go_wp2_with fail
  go_loopw [5, 6, 7] (fun o f i wr => ∃ (fn k g n cp : Nat) (acc : List ByteArray), o = .slice (some ⟨g, 0, none⟩) n cp ∧ f = .int .i64 (fn : Int) ∧ i = .int .i64 (k : Int) ∧ fn ≤ k ∧ k ≤ s.size + 1 ∧ n ≤ k ∧ OwnS wr w.heap.size g n cp acc ∧ Below w.heap.size w wr ∧ Spl b s R acc fn k) (fun o f i _ => s.size + 1 - (intOf i).toNat)
  case atStart => exact ⟨0, 0, w.heap.size, 0, 0, [], rfl, rfl, rfl, by omega, by omega, by omega, ownS_made _ _ (Nat.le_refl _), (Below.refl _ _).alloc (Nat.le_refl _) _, HS.out⟩
  case round =>
    obtain ⟨fn, k, g, n, cp, acc, rfl, rfl, rfl, hfk, hk, hnk, hO, hB, hsp⟩ := hrel
    clear HS
    have HSP := Hid.mk' hsp
    clear hsp
    have hbw := hB.size
    have hc3 : n + 1 ≤ maxLen := by unfold maxLen; omega
    have hc4 : (n + 1) * 16 ≤ 140737488355328 := by omega
    have hsx := begun_size s fn k (by unfold maxLen; omega)
    by_cases hle : k ≤ s.size
    · have hki : (k : Int) ≤ (s.size : Int) := by omega
      have hsl : ∀ W, (Instr.slice 9 (.string s) (some (.int .i64 (fn : Int))) (some (.int .i64 (k : Int))) none).run Try.prog W = .ok (.string (s.extract fn k)) W := fun W => by
        rw [run_slice_string W 9 s .i64 .i64 (fn : Int) (k : Int) Try.underlying9 (by omega) (by omega) (by omega)]; rfl
      by_cases hke : k = s.size
      · subst hke
        have HN : Hid (Spl b s R (acc ++ [s.extract fn s.size]) (s.size + 1) (s.size + 1)) := spl_last HSP.out
        clear HSP
        go_wp2_with (at_builtin; refine wpList_append_own _ rfl _ _ 66 rfl w.heap.size 9 i0 (.string ⟨#[]⟩) 1 16 Try.underlying66 hi hz0 hz1 hz2 rfl (by decide) _ _ _ rfl (hO.2.2.alloc _) ⟨wr.heap.size, 0, none⟩ 1 1 [_] rfl rfl (cell_one_new _ _ _) (str_oneCell _) hc3 hc4 (leAlloc _ _ hbw) ?_)
        intro v3 w3 hown hgrow hnn
        rw [← strVals_snoc] at hown
        obtain ⟨g3, cp3, hv, hO3⟩ := ownS_val (by have := hO.1; simp; omega) (by
          intro x hx
          rcases List.mem_append.1 hx with hx | hx
          · exact hO.2.1 x hx
          · simp at hx; subst hx; exact hsx) hnn hown
        subst hv
        have hB3 : Below w.heap.size w w3 := (hB.alloc hbw _).grown hgrow (leAlloc _ _ hbw) (fun k e => by simp [Value.ownBlock] at e; have := hO.lt; omega)
        have HO3 := Hid.mk' hO3
        clear hown hgrow hnn hO hO3 hB
        go_wp2_with fail
        go_roundw
        case rel => exact ⟨s.size + 1, s.size + 1, g3, n + 1, cp3, acc ++ [s.extract fn s.size], rfl, by go_num, by go_num, by omega, by omega, by omega, HO3.out, hB3, HN.out⟩
        case measure => simp [intOf]
      · have hlt : k < s.size := by omega
        have hkz : ¬ (k : Int) = (s.size : Int) := by omega
        have hkz2 : ((k : Int) == (s.size : Int)) = false := by simp [hkz]
        have hlti : (k : Int) < (s.size : Int) := by omega
        by_cases hb : s[k] = b
        · have HN : Hid (Spl b s R (acc ++ [s.extract fn k]) (k + 1) (k + 1)) := spl_word HSP.out hlt hb
          have hbt : ((s[k].toNat : Int) == (b.toNat : Int)) = true := by rw [hb]; simp
          clear HSP hb
          go_wp2_with (at_builtin; refine wpList_append_own _ rfl _ _ 66 rfl w.heap.size 9 i0 (.string ⟨#[]⟩) 1 16 Try.underlying66 hi hz0 hz1 hz2 rfl (by decide) _ _ _ rfl (hO.2.2.alloc _) ⟨wr.heap.size, 0, none⟩ 1 1 [_] rfl rfl (cell_one_new _ _ _) (str_oneCell _) hc3 hc4 (leAlloc _ _ hbw) ?_)
          intro v3 w3 hown hgrow hnn
          rw [← strVals_snoc] at hown
          obtain ⟨g3, cp3, hv, hO3⟩ := ownS_val (by have := hO.1; simp; omega) (by
            intro x hx
            rcases List.mem_append.1 hx with hx | hx
            · exact hO.2.1 x hx
            · simp at hx; subst hx; exact hsx) hnn hown
          subst hv
          have hB3 : Below w.heap.size w w3 := (hB.alloc hbw _).grown hgrow (leAlloc _ _ hbw) (fun k e => by simp [Value.ownBlock] at e; have := hO.lt; omega)
          have HO3 := Hid.mk' hO3
          clear hown hgrow hnn hO hO3 hB
          go_wp2_with fail
          go_roundw
          case rel => exact ⟨k + 1, k + 1, g3, n + 1, cp3, acc ++ [s.extract fn k], rfl, by go_num, by go_num, by omega, by omega, by omega, HO3.out, hB3, HN.out⟩
          case measure => simp [intOf]; omega
        · have HN : Hid (Spl b s R acc fn (k + 1)) := spl_more HSP.out hfk hlt hb
          have hbt : ¬ s[k].toNat = b.toNat := fun e => hb (UInt8.toNat_inj.1 e)
          have hcd2 : ((s[k].toNat : Int) == (b.toNat : Int)) = false := by rw [beq_eq_false_iff_ne]; omega
          clear HSP hb hbt
          go_wp2_with fail
          go_roundw
          case rel => exact ⟨fn, k + 1, g, n, cp, acc, rfl, rfl, by go_num, by omega, by omega, by omega, hO, hB, HN.out⟩
          case measure => simp [intOf]; omega
    · have hki : ¬ (k : Int) ≤ (s.size : Int) := by omega
      obtain rfl := spl_end HSP.out (by omega)
      clear HSP
      go_wp2_with fail
      go_ret
      exact ⟨g, n, cp, rfl, hO, hB⟩

end Go.Proofs.Ytefjbpkomphjdaa.txts
