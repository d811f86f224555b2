/- What the program keeps from record to record is what the specification keeps: plain mathematics. The program's ReplayRecs. A region that draws its order: what is held from one operation to the next may fall with the last one, which waits for all the others. No function of the program is named here. A call inside a region that draws its order, as a law of one step. No function of the program is named here. -/
import Derived.Test.YtijplooogplccaaGreatShao
import Derived.Test.YtijplooogplccaaGreatShad
import Derived.Deep.RegionHeld
import Derived.Deep.RegionLaw
import Derived.WalkKit
import Derived.WalkSpells
import Derived.WalkLawsBesides
namespace Go.Proofs.YtijplooogplccaaGreat.recs
open Go Go.RowKit Go.Proofs.YtijplooogplccaaGreat.base Go.Proofs.YtijplooogplccaaGreat.pairs Go.Proofs.YtijplooogplccaaGreat.ords
set_option linter.unusedVariables false
set_option linter.unusedSimpArgs false

def nextP (m : List Pr) (f : Int → Rc) (r : Rc) : List Pr := if r.1 = 2 then applyAll m (f r.2.1).2.2 else m
def nextH (f : Int → Rc) (hf : ByteArray → Nat) (r : Rc) : ByteArray → Nat := putK (delK hf (f r.2.1).2.2) r.2.2 r.2.1.toNat
structure Rel (pre : List Rc) (s : St) (f : Int → Rc) (hf : ByteArray → Nat) : Prop where
  new : ∀ tx, tx ∉ s.2.2 → f tx = (0, 0, [])
  old : ∀ tx, tx ∈ s.2.2 → (f tx).1 ≠ 0
  held : ∀ r ∈ s.2.1, f r.2.1 = r ∧ recOk r = true ∧ r.1 = 1
  back : ∀ tx, (f tx).1 = 1 → f tx ∈ s.2.1 ∧ (f tx).2.1 = tx
  bare : ∀ tx, (f tx).1 ≠ 1 → (f tx).2.2 = []
  keys : ∀ key, hf key ≠ 0 ↔ ∃ r ∈ s.2.1, hasKey r.2.2 key = true
  still : s.2.1 = stillHeld f pre
  met : ∀ r ∈ pre, r.2.1 ∈ s.2.2
  few : s.1.length ≤ 60
  apart : s.2.1.Pairwise fun a b => a.2.1 ≠ b.2.1 ∧ ∀ key, hasKey a.2.2 key = true → hasKey b.2.2 key = false
theorem hasKey_iff (ops : List Od) (s : ByteArray) : hasKey ops s = true ↔ ∃ o ∈ ops, o.2.1 = s := by simp [hasKey]
theorem locked_iff (held : List Rc) (ops : List Od) : locked held ops = true ↔ ∃ r ∈ held, ∃ o ∈ ops, hasKey r.2.2 o.2.1 = true := by
  unfold locked
  simp only [List.any_eq_true, decide_eq_true_eq, hasKey_iff]
  constructor
  · rintro ⟨r, hr, o, ho, p, hp, e⟩; exact ⟨r, hr, p, hp, o, ho, e⟩
  · rintro ⟨r, hr, p, hp, o, ho, e⟩; exact ⟨r, hr, o, ho, p, hp, e⟩
theorem rel_start : Rel [] ([], [], []) (fun _ => (0, 0, [])) (fun _ => 0) :=
  ⟨fun _ _ => rfl, fun _ h => absurd h List.not_mem_nil, fun _ h => absurd h List.not_mem_nil, fun _ h => by simp at h, fun _ _ => rfl, fun key => by simp, rfl, fun _ h => absurd h List.not_mem_nil, Nat.zero_le _, List.Pairwise.nil⟩
theorem cut_is {held : List Rc} {tx : Int} {k : Nat} (hp : held.Pairwise fun a b => a.2.1 ≠ b.2.1) (h : placeTx tx held = some k) : held.take k ++ held.drop (k + 1) = held.filter fun r => decide (r.2.1 ≠ tx) := by
  induction held generalizing k with
  | nil => cases h
  | cons r l ih =>
    rw [List.pairwise_cons] at hp
    rw [placeTx] at h
    split at h
    · next e =>
      cases h
      have : l.filter (fun r => decide (r.2.1 ≠ tx)) = l := List.filter_eq_self.2 fun x hx => by
        have := hp.1 x hx
        rw [e] at this
        simp; exact fun e2 => this e2.symm
      simp [List.filter_cons, e]
      simpa using this.symm
    · next e =>
      cases hq : placeTx tx l with
      | none => rw [hq] at h; cases h
      | some j =>
        rw [hq] at h
        simp only [Option.map_some, Option.some.injEq] at h
        subst h
        have := ih hp.2 hq
        simp only [List.take_succ_cons, List.drop_succ_cons, List.cons_append]
        rw [this]
        simp [List.filter_cons, e]
section
variable {pre : List Rc} {s : St} {f : Int → Rc} {hf : ByteArray → Nat}
theorem Rel.tx_in (h : Rel pre s f hf) {r : Rc} (hr : r ∈ s.2.1) : r.2.1 ∈ s.2.2 := by
  by_cases e : r.2.1 ∈ s.2.2
  · exact e
  · have h1 := h.new _ e
    obtain ⟨h2, _, h4⟩ := h.held r hr
    rw [h1] at h2
    rw [← h2] at h4
    simp at h4
theorem Rel.zero (h : Rel pre s f hf) (tx : Int) : (f tx).1 = 0 ↔ tx ∉ s.2.2 := by
  constructor
  · intro e hin; exact h.old tx hin e
  · intro e; rw [h.new tx e]
theorem still_upd (h : Rel pre s f hf) (tx : Int) (r : Rc) (htx : tx ∉ s.2.2) : stillHeld (updR f tx r) pre = stillHeld f pre := by
  unfold stillHeld
  refine List.filter_congr fun x hx => ?_
  have : x.2.1 ≠ tx := fun e => htx (e ▸ h.met x hx)
  unfold updR
  rw [if_neg this]
theorem rel_fits (h : Rel pre s f hf) (r : Rc) (hok : recOk r = true) : fitsP s.1 f hf r = true ↔ (if r.1 = 1 then r.2.1 ∉ s.2.2 ∧ locked s.2.1 r.2.2 = false ∧ meets s.1 r.2.2 = true else if r.1 = 2 then (f r.2.1).1 = 1 else (f r.2.1).1 = 1 ∨ (f r.2.1).1 = 0) := by
  have hlk : (r.2.2.any fun o => decide (hf o.2.1 ≠ 0)) = locked s.2.1 r.2.2 := by
    rw [Bool.eq_iff_iff, locked_iff, List.any_eq_true]
    constructor
    · rintro ⟨o, ho, e⟩
      obtain ⟨x, hx, hk⟩ := (h.keys o.2.1).1 (of_decide_eq_true e)
      exact ⟨x, hx, o, ho, hk⟩
    · rintro ⟨x, hx, o, ho, hk⟩
      exact ⟨o, ho, decide_eq_true ((h.keys o.2.1).2 ⟨x, hx, hk⟩)⟩
  unfold fitsP
  rw [hok, hlk, Bool.true_and]
  split
  · simp only [Bool.and_eq_true, Bool.not_eq_true', decide_eq_true_eq, h.zero]
  · split
    · simp
    · simp
theorem rel_step (h : Rel pre s f hf) (r : Rc) : (∃ t, one s r = some t ∧ fitsP s.1 f hf r = true ∧ t.1 = nextP s.1 f r ∧ t.1.length ≤ 60 ∧ Rel (pre ++ [r]) t (updR f r.2.1 r) (nextH f hf r)) ∨ (one s r = none ∧ (fitsP s.1 f hf r = false ∨ (fitsP s.1 f hf r = true ∧ 60 < (nextP s.1 f r).length))) := by
  cases hok : recOk r
  · right
    refine ⟨?_, .inl ?_⟩
    · unfold one; rw [hok]; rfl
    · unfold fitsP; rw [hok]; rfl
  · have hfit := rel_fits h r hok
    obtain ⟨⟨ht1, ht2⟩, hcase⟩ := (recOk_iff r).1 hok
    by_cases hk1 : r.1 = 1
    · rw [if_pos hk1] at hfit
      by_cases hc : r.2.1 ∉ s.2.2 ∧ locked s.2.1 r.2.2 = false ∧ meets s.1 r.2.2 = true
      · left
        have hfz := h.new _ hc.1
        have hnh : nextH f hf r = putK hf r.2.2 r.2.1.toNat := by unfold nextH; rw [hfz]; rfl
        have hnm : nextP s.1 f r = s.1 := by unfold nextP; rw [if_neg (by omega)]
        refine ⟨(s.1, s.2.1 ++ [r], s.2.2 ++ [r.2.1]), ?_, hfit.2 hc, hnm.symm, h.few, ?_⟩
        · unfold one
          rw [if_pos hok, if_pos hk1, if_neg]
          simp [hc.1, hc.2.1, hc.2.2]
        · rw [hnh]
          have hne : ∀ x ∈ s.2.1, x.2.1 ≠ r.2.1 := fun x hx e => hc.1 (e ▸ h.tx_in hx)
          refine ⟨fun tx ht => ?_, fun tx ht => ?_, fun x hx => ?_, fun tx ht => ?_, fun tx ht => ?_, fun key => ?_, ?_, fun x hx => ?_, h.few, ?_⟩
          · simp at ht
            unfold updR; rw [if_neg ht.2]; exact h.new tx ht.1
          · unfold updR
            split
            · omega
            · next e => exact h.old tx (by simpa [e] using ht)
          · rcases List.mem_append.1 hx with e | e
            · unfold updR; rw [if_neg (hne x e)]; exact h.held x e
            · rw [List.mem_singleton.1 e]; unfold updR; rw [if_pos rfl]; exact ⟨rfl, hok, hk1⟩
          · unfold updR at ht ⊢
            split at ht
            · next e => rw [if_pos e]; exact ⟨List.mem_append.2 (.inr (by simp)), e.symm⟩
            · next e => rw [if_neg e]; exact ⟨List.mem_append.2 (.inl (h.back tx ht).1), (h.back tx ht).2⟩
          · unfold updR at ht ⊢
            split at ht
            · exact absurd hk1 ht
            · next e => rw [if_neg e]; exact h.bare tx ht
          · unfold putK
            constructor
            · intro e
              split at e
              · next e2 => exact ⟨r, List.mem_append.2 (.inr (by simp)), e2⟩
              · obtain ⟨x, hx, hk⟩ := (h.keys key).1 e
                exact ⟨x, List.mem_append.2 (.inl hx), hk⟩
            · rintro ⟨x, hx, hk⟩
              split
              · omega
              · next e2 =>
                rcases List.mem_append.1 hx with e | e
                · exact (h.keys key).2 ⟨x, e, hk⟩
                · rw [List.mem_singleton.1 e] at hk; exact absurd hk e2
          · have e1 := still_upd h r.2.1 r hc.1
            unfold stillHeld at e1 ⊢
            rw [List.filter_append, e1]
            have : decide ((updR f r.2.1 r r.2.1).1 = 1) = true := by unfold updR; rw [if_pos rfl]; simpa using hk1
            simp only [List.filter_cons, this, if_true, List.filter_nil]
            rw [h.still]; rfl
          · rcases List.mem_append.1 hx with e | e
            · exact List.mem_append.2 (.inl (h.met x e))
            · rw [List.mem_singleton.1 e]; simp
          · rw [List.pairwise_append]
            refine ⟨h.apart, by simp, fun x hx y hy => ?_⟩
            rw [List.mem_singleton.1 hy]
            refine ⟨hne x hx, fun key hk => ?_⟩
            rw [← Bool.not_eq_true]
            intro e
            obtain ⟨o, ho, e2⟩ := (hasKey_iff _ _).1 e
            have : locked s.2.1 r.2.2 = true := (locked_iff _ _).2 ⟨x, hx, o, ho, by rw [e2]; exact hk⟩
            rw [hc.2.1] at this
            cases this
      · right
        refine ⟨?_, .inl ?_⟩
        · unfold one
          rw [if_pos hok, if_pos hk1, if_pos]
          by_cases h1 : r.2.1 ∈ s.2.2
          · exact .inl (decide_eq_true h1)
          · right
            cases h2 : locked s.2.1 r.2.2
            · right
              cases h3 : meets s.1 r.2.2
              · rfl
              · exact absurd ⟨h1, h2, h3⟩ hc
            · exact .inl rfl
        · rw [← Bool.not_eq_true]; intro e; exact hc (hfit.1 e)
    · rw [if_neg hk1] at hfit
      have hops : r.2.2 = [] := by rcases hcase with ⟨h1, _⟩ | ⟨_, h1⟩; exact absurd h1 hk1; exact h1
      have hk23 : r.1 = 2 ∨ r.1 = 3 := by rcases hcase with ⟨h1, _⟩ | ⟨h1, _⟩; exact absurd h1 hk1; exact h1
      have hnh : nextH f hf r = delK hf (f r.2.1).2.2 := by unfold nextH; rw [hops]; rfl
      have hone : one s r = match placeTx r.2.1 s.2.1 with
          | none => if r.1 = 3 ∧ r.2.1 ∉ s.2.2 then some (s.1, s.2.1, s.2.2 ++ [r.2.1]) else none
          | some k => if (nextM s r k).length ≤ 60 then some (nextM s r k, s.2.1.take k ++ s.2.1.drop (k + 1), s.2.2) else none := by
        unfold one
        rw [if_pos hok, if_neg hk1]
        cases placeTx r.2.1 s.2.1 <;> rfl
      have hpw : s.2.1.Pairwise fun a b => a.2.1 ≠ b.2.1 := h.apart.imp fun x => x.1
      cases hpl : placeTx r.2.1 s.2.1 with
      | none =>
        have hnone := placeTx_none hpl
        rw [hpl] at hone
        simp only [] at hone
        have hf1 : (f r.2.1).1 ≠ 1 := fun e => hnone _ (h.back _ e).1 (h.back _ e).2
        by_cases hc : r.1 = 3 ∧ r.2.1 ∉ s.2.2
        · left
          rw [if_pos hc] at hone
          have hfz := h.new _ hc.2
          have hnh2 : nextH f hf r = hf := by rw [hnh, hfz]; rfl
          have hnm : nextP s.1 f r = s.1 := by unfold nextP; rw [if_neg (by omega)]
          refine ⟨_, hone, hfit.2 (by rw [if_neg (by omega)]; exact .inr (by rw [hfz])), hnm.symm, h.few, ?_⟩
          rw [hnh2]
          have hne : ∀ x ∈ s.2.1, x.2.1 ≠ r.2.1 := fun x hx => hnone x hx
          refine ⟨fun tx ht => ?_, fun tx ht => ?_, fun x hx => ?_, fun tx ht => ?_, fun tx ht => ?_, h.keys, ?_, fun x hx => ?_, h.few, h.apart⟩
          · simp at ht
            unfold updR; rw [if_neg ht.2]; exact h.new tx ht.1
          · unfold updR
            split
            · omega
            · next e => exact h.old tx (by simpa [e] using ht)
          · unfold updR; rw [if_neg (hne x hx)]; exact h.held x hx
          · unfold updR at ht ⊢
            split at ht
            · omega
            · next e => rw [if_neg e]; exact h.back tx ht
          · unfold updR at ht ⊢
            split at ht
            · next e => rw [if_pos e]; exact hops
            · next e => rw [if_neg e]; exact h.bare tx ht
          · have e1 := still_upd h r.2.1 r hc.2
            unfold stillHeld at e1 ⊢
            rw [List.filter_append, e1]
            have : decide ((updR f r.2.1 r r.2.1).1 = 1) = false := by unfold updR; rw [if_pos rfl]; simpa using hk1
            simp only [List.filter_cons, this, List.filter_nil, Bool.false_eq_true, if_false, List.append_nil]
            exact h.still
          · rcases List.mem_append.1 hx with e | e
            · exact List.mem_append.2 (.inl (h.met x e))
            · rw [List.mem_singleton.1 e]; simp
        · right
          rw [if_neg hc] at hone
          refine ⟨hone, .inl ?_⟩
          rw [← Bool.not_eq_true]
          intro e
          have e2 := hfit.1 e
          rcases hk23 with e3 | e3
          · rw [if_pos e3] at e2; exact hf1 e2
          · rw [if_neg (by omega)] at e2
            rcases e2 with e2 | e2
            · exact hf1 e2
            · exact hc ⟨e3, (h.zero _).1 e2⟩
      | some k =>
        rw [hpl] at hone
        simp only [] at hone
        obtain ⟨hkl, hkt⟩ := placeTx_some hpl
        have hmem : s.2.1[k] ∈ s.2.1 := List.getElem_mem hkl
        obtain ⟨h4, h5, h6⟩ := h.held _ hmem
        rw [hkt] at h4
        have hft : (f r.2.1).1 = 1 := by rw [h4]; exact h6
        have hnm : nextM s r k = nextP s.1 f r := by
          unfold nextM nextP opsAt
          rw [List.getElem?_eq_getElem hkl, h4]
        rw [hnm, cut_is hpw hpl] at hone
        have hfits : fitsP s.1 f hf r = true := hfit.2 (by
          rcases hk23 with e3 | e3
          · rw [if_pos e3]; exact hft
          · rw [if_neg (by omega)]; exact .inl hft)
        by_cases hlen : (nextP s.1 f r).length ≤ 60
        · left
          rw [if_pos hlen] at hone
          refine ⟨_, hone, hfits, rfl, hlen, ?_⟩
          rw [hnh]
          have hin : r.2.1 ∈ s.2.2 := by have := h.tx_in hmem; rwa [hkt] at this
          refine ⟨fun tx ht => ?_, fun tx ht => ?_, fun x hx => ?_, fun tx ht => ?_, fun tx ht => ?_, fun key => ?_, ?_, fun x hx => ?_, hlen, List.Pairwise.filter _ h.apart⟩
          · have e : tx ≠ r.2.1 := fun e => ht (e ▸ hin)
            unfold updR; rw [if_neg e]; exact h.new tx ht
          · unfold updR
            split
            · omega
            · exact h.old tx ht
          · obtain ⟨hx1, hx2⟩ := List.mem_filter.1 hx
            unfold updR; rw [if_neg (of_decide_eq_true hx2)]; exact h.held x hx1
          · unfold updR at ht ⊢
            split at ht
            · omega
            · next e =>
              rw [if_neg e]
              have hb := h.back tx ht
              exact ⟨List.mem_filter.2 ⟨hb.1, decide_eq_true (by rw [hb.2]; exact e)⟩, hb.2⟩
          · unfold updR at ht ⊢
            split at ht
            · next e => rw [if_pos e]; exact hops
            · next e => rw [if_neg e]; exact h.bare tx ht
          · rw [h4]
            have hfar : ∀ x ∈ s.2.1, x.2.1 ≠ r.2.1 → ∀ key, hasKey x.2.2 key = true → hasKey s.2.1[k].2.2 key = false := by
              intro x hx hne key hk
              obtain ⟨j, hj, rfl⟩ := List.getElem_of_mem hx
              rcases Nat.lt_trichotomy j k with e | e | e
              · exact (List.pairwise_iff_getElem.1 h.apart j k hj hkl e).2 key hk
              · subst e; exact absurd hkt hne
              · have := (List.pairwise_iff_getElem.1 h.apart k j hkl hj e).2 key
                cases e2 : hasKey s.2.1[k].2.2 key
                · rfl
                · rw [this e2] at hk; cases hk
            unfold delK
            constructor
            · intro e
              split at e
              · exact absurd rfl e
              · next e2 =>
                obtain ⟨x, hx, hk⟩ := (h.keys key).1 e
                refine ⟨x, List.mem_filter.2 ⟨hx, decide_eq_true fun e3 => ?_⟩, hk⟩
                have h7 := (h.held x hx).1
                rw [e3, h4] at h7
                rw [h7] at e2
                exact e2 hk
            · rintro ⟨x, hx, hk⟩
              obtain ⟨hx1, hx2⟩ := List.mem_filter.1 hx
              rw [if_neg (by rw [hfar x hx1 (of_decide_eq_true hx2) key hk]; decide)]
              exact (h.keys key).2 ⟨x, hx1, hk⟩
          · show s.2.1.filter _ = _
            rw [h.still]
            unfold stillHeld
            rw [List.filter_append, List.filter_filter]
            have : decide ((updR f r.2.1 r r.2.1).1 = 1) = false := by unfold updR; rw [if_pos rfl]; simpa using hk1
            simp only [List.filter_cons, this, List.filter_nil, Bool.false_eq_true, if_false, List.append_nil]
            refine List.filter_congr fun x hx => ?_
            unfold updR
            by_cases e : x.2.1 = r.2.1
            · rw [if_pos e]; simp [e, hk1]
            · rw [if_neg e]; simp [e]
          · rcases List.mem_append.1 hx with e | e
            · exact h.met x e
            · rw [List.mem_singleton.1 e]; exact hin
        · right
          rw [if_neg hlen] at hone
          exact ⟨hone, .inr ⟨hfits, by omega⟩⟩
end
end Go.Proofs.YtijplooogplccaaGreat.recs

namespace Go.Proofs.YtijplooogplccaaGreat.recs
open Go Go.RowKit Go.Proofs.YtijplooogplccaaGreat.base Go.Proofs.YtijplooogplccaaGreat.pairs Go.Proofs.YtijplooogplccaaGreat.ords
set_option linter.unusedVariables false
set_option linter.unusedSimpArgs false

def resM (r : Option St) : List Pr := match r with | none => [] | some s => s.1
def resH (r : Option St) : List Rc := match r with | none => [] | some s => s.2.1
def RepPost (w : World) (r : Option St) (e : Ending) (w' : World) : Prop :=
  ∃ (g np cp g2 c2 : Nat) (hs : List Value), e = .returned (.tuple #[.slice (some ⟨g, 0, none⟩) np cp, .slice (some ⟨g2, 0, none⟩) (resH r).length c2, .bool r.isSome]) ∧
    OwnP w' w.heap.size g np cp (resM r) ∧ OwnR w' w.heap.size (.slice (some ⟨g2, 0, none⟩) (resH r).length c2) (resH r) hs ∧ ¬ BlkR (.slice (some ⟨g2, 0, none⟩) (resH r).length c2) hs g ∧ Below w.heap.size w w'
def PlainR (w : World) (a : Option Addr) (n : Nat) : Prop := ∀ b off, a = some ⟨b, off, none⟩ → ∀ i, i < n → ∀ pa pl pc, w.cell? ⟨b, off + i * 3 + 2, none⟩ = some (.slice pa pl pc) → Plain pa
theorem repPost_none {w w' : World} {r : Option St} (hr : r = none) (hb : Below w.heap.size w w') : RepPost w r (.returned (.tuple #[.slice (some ⟨w'.heap.size, 0, none⟩) 0 0, .slice (some ⟨w'.heap.size + 1, 0, none⟩) 0 0, .bool false])) ((w'.alloc (.cells #[] 151)).alloc (.cells #[] 133)) := by
  subst hr
  have hb1 : Below w'.heap.size w' (w'.alloc (.cells #[] 151)) := (Below.refl _ _).alloc (Nat.le_refl _) _
  have hB1 := hb.trans (hb1.mono hb.size)
  have hb2 := (Below.refl _ (w'.alloc (.cells #[] 151))).alloc (Nat.le_refl _) (.cells #[] 133)
  have hO := (ownP_made w' w.heap.size hb.size).below hb2
  have hR := ownR_made (w'.alloc (.cells #[] 151)) w.heap.size hB1.size
  rw [show (w'.alloc (.cells #[] 151)).heap.size = w'.heap.size + 1 by simp] at hR
  refine ⟨w'.heap.size, 0, 0, w'.heap.size + 1, 0, [], rfl, hO, hR, ?_, hB1.trans (hb2.mono hB1.size)⟩
  rintro (e | ⟨y, hy, _⟩)
  · simp [Value.ownBlock] at e
  · exact absurd hy List.not_mem_nil
theorem made_start (w : World) : Made w ((((w.alloc (.cells #[] 151)).alloc (.map #[] 0)).alloc (.map #[] 0)).alloc (.cells #[.slice (some ⟨w.heap.size, 0, none⟩) 0 0, .map (some (w.heap.size + 1)), .map (some (w.heap.size + 1 + 1))] 231))
    (w.heap.size + 1 + 1 + 1) (w.heap.size + 1) (w.heap.size + 1 + 1) 0 0 w.heap.size 0 0 (fun _ => (0, 0, [])) (fun _ => 0) [] := by
  obtain ⟨wa, hwa⟩ : ∃ wa, wa = w.alloc (.cells #[] 151) := ⟨_, rfl⟩
  have ba : Below w.heap.size w wa := by rw [hwa]; exact (Below.refl _ _).alloc (Nat.le_refl _) _
  have oa : OwnP wa w.heap.size w.heap.size 0 0 [] := by rw [hwa]; exact ownP_made w _ (Nat.le_refl _)
  have sa : wa.heap.size = w.heap.size + 1 := by rw [hwa]; simp
  rw [← hwa]
  clear hwa
  obtain ⟨wb, hwb⟩ : ∃ wb, wb = wa.alloc (.map #[] 0) := ⟨_, rfl⟩
  have bb : Below wa.heap.size wa wb := by rw [hwb]; exact (Below.refl _ _).alloc (Nat.le_refl _) _
  have lb : Lasts w wb wa.heap.size 0 (fun _ => (0, 0, [])) := by rw [hwb]; exact lasts_made w wa
  have sb : wb.heap.size = w.heap.size + 1 + 1 := by rw [hwb]; simp [sa]
  rw [← hwb]
  clear hwb
  obtain ⟨wc, hwc⟩ : ∃ wc, wc = wb.alloc (.map #[] 0) := ⟨_, rfl⟩
  have bc : Below wb.heap.size wb wc := by rw [hwc]; exact (Below.refl _ _).alloc (Nat.le_refl _) _
  have tc : Tally wc wb.heap.size 0 (fun _ => 0) := by rw [hwc]; exact tally_made wb
  have sc : wc.heap.size = w.heap.size + 1 + 1 + 1 := by rw [hwc]; simp [sb]
  rw [← hwc]
  clear hwc
  have bd := (Below.refl _ wc).alloc (Nat.le_refl _) (.cells #[.slice (some ⟨w.heap.size, 0, none⟩) 0 0, .map (some (w.heap.size + 1)), .map (some (w.heap.size + 1 + 1))] 231)
  have xd := heap_alloc_new wc (.cells #[.slice (some ⟨w.heap.size, 0, none⟩) 0 0, .map (some (w.heap.size + 1)), .map (some (w.heap.size + 1 + 1))] 231)
  rw [sa] at lb
  rw [sb] at tc
  rw [sc] at xd
  have B1 := ba.trans (bb.mono ba.size)
  have B2 := B1.trans (bc.mono B1.size)
  exact ⟨xd, (lb.below bc).below bd, tc.below bd, ((oa.below bb).below bc).below bd, B2.trans (bd.mono B2.size), by omega, by omega, by omega, by omega, by omega, by omega, by omega, by omega, by omega⟩
theorem Rel.eight {pre : List Rc} {s : St} {f : Int → Rc} {hf : ByteArray → Nat} (h : Rel pre s f hf) (tx : Int) : (f tx).2.2.length ≤ 8 ∧ ((f tx).1 = 1 → (f tx).2.2 ≠ []) := by
  by_cases e : (f tx).1 = 1
  · obtain ⟨h1, h2⟩ := h.back tx e
    obtain ⟨_, h3, h4⟩ := h.held _ h1
    obtain ⟨_, ⟨_, h5⟩ | ⟨h5, _⟩⟩ := (recOk_iff _).1 h3
    · obtain ⟨_, h6, h7⟩ := (opsOk_iff _).1 h5
      exact ⟨h7, fun _ e2 => by rw [e2] at h6; simp at h6⟩
    · omega
  · rw [h.bare tx e]; exact ⟨by simp, fun e2 => absurd e2 e⟩

set_option maxRecDepth 100000 in
set_option maxHeartbeats 4000000 in
theorem impl_replay (a : Option Addr) (len cap : Nat) (l : List Rc) (w : World) (h : SlR w a len l) (hpl : PlainR w a len) (hsz : len ≤ 1099511627776 / 16) (hops : ∀ r ∈ l, r.2.2.length ≤ 1099511627776 ∧ ∀ p ∈ r.2.2, p.2.1.size ≤ 1099511627776) :
    Calls Tryz.prog 136 #[.slice a len cap] w fun e w' => RepPost w (replay l) e w' := by
  obtain ⟨hl, hm, hsm, hc⟩ := id h
  subst hl
  unfold maxLen at hm
  have hmm := @run_makeMap Tryz.prog
  generalize hR : replay l = R
  have HR0 : Hid (R = replayGo ([], [], []) (l.drop 0)) := by show _ = _; rw [← hR]; rfl
  clear hR
  go_enter Tryz.func136, Tryz.ntmps136
  go_wp2_with (at_builtin; fail)
  clear hmm
  go_loopw [14] (fun i wr => ∃ (k g np cp n1 n2 : Nat) (f : Int → Rc) (hf : ByteArray → Nat) (s : St), k ≤ l.length ∧ i = .int .i64 (k : Int) ∧ Made w wr (w.heap.size + 1 + 1 + 1) (w.heap.size + 1) (w.heap.size + 1 + 1) n1 n2 g np cp f hf s.1 ∧ Rel (l.take k) s f hf ∧ n1 ≤ k ∧ n2 ≤ 8 * k ∧ Hid (R = replayGo s (l.drop k))) (fun i _ => l.length - (intOf i).toNat)
  case atStart => exact ⟨0, _, 0, 0, 0, 0, _, _, ([], [], []), Nat.zero_le _, rfl, made_start w, rel_start, Nat.le_refl _, Nat.le_refl _, HR0⟩
  case round =>
    clear HR0
    obtain ⟨k, g, np, cp, n1, n2, f, hf, s, hk, rfl, hM, hRel, hn1, hn2, HR⟩ := hrel
    have hnp := hM.own.1
    have hfew := hRel.few
    by_cases hlt : k < l.length
    · obtain ⟨b, off, ha, _⟩ := hc (by omega)
      subst ha
      have hat := h.at k hlt
      obtain ⟨c0', c1', pa, pl, pc, c2', hSo, _⟩ := hat
      have hpp : Plain pa := hpl b off rfl k hlt pa pl pc c2'
      have hbw := World.block_lt_of_cell? w _ c0'
      have c0 := (hM.bel.cell (p := ⟨b, off + k * 3, none⟩) hbw).trans c0'
      have c1 := (hM.bel.cell (p := ⟨b, off + k * 3 + 1, none⟩) hbw).trans c1'
      have c2 := (hM.bel.cell (p := ⟨b, off + k * 3 + 2, none⟩) hbw).trans c2'
      have hki : (k : Int) < (l.length : Int) := by omega
      obtain ⟨hol, hks⟩ := hops _ (List.getElem_mem hlt)
      have hst := rel_step hRel l[k]
      have HD : Hid (R = match one s l[k] with | none => none | some t => replayGo t (l.drop (k + 1))) := by
        show _ = _
        rw [HR.out, List.drop_eq_getElem_cons hlt]; rfl
      have HTK : Hid (l.take (k + 1) = l.take k ++ [l[k]]) := List.take_succ_eq_append_getElem hlt
      have hr8 := hRel.eight l[k].2.1
      generalize l[k] = r at *
      clear c0' c1' c2' hbw HR
      obtain ⟨V, hV⟩ : ∃ V, V = wr.alloc (.cells #[.int .i64 r.1, .int .i64 r.2.1, .slice pa pl pc] 133) := ⟨_, rfl⟩
      have hbV : Below wr.heap.size wr V := by rw [hV]; exact (Below.refl _ _).alloc (Nat.le_refl _) _
      have hbx : BoxR wr.heap.size r.1 r.2.1 (.slice pa pl pc) V := by rw [hV]; exact boxR_new _ _ _ _
      have hMV := hM.below hbV
      have HF := Hid.mk' (i_fits (w.heap.size + 1 + 1 + 1) (w.heap.size + 1) (w.heap.size + 1 + 1) n1 n2 g np cp f hf s.1 r.1 r.2.1 pa pl pc r.2.2 w V hMV.box hMV.lasts hMV.tally hMV.own.sl (by omega) (hSo.below hMV.bel) hks)
      have HV := Hid.mk' hV.symm
      clear hV hM hbV
      have HTAKE : Hid (∀ wx, fitsP s.1 f hf r = true → Below V.heap.size V wx → Calls Tryz.prog 156 #[.pointer (some ⟨w.heap.size + 1 + 1 + 1, 0, none⟩), .agg #[.int .i64 r.1, .int .i64 r.2.1, .slice pa pl pc]] wx fun e w' => ∃ g' np' cp', e = .returned (.tuple #[]) ∧ Made w w' (w.heap.size + 1 + 1 + 1) (w.heap.size + 1) (w.heap.size + 1 + 1) (n1 + 1) (n2 + pl) g' np' cp' (updR f r.2.1 r) (nextH f hf r) (nextP s.1 f r)) := fun wx hfit hx => by
        have hok : recOk r = true := by
          unfold fitsP at hfit
          rw [Bool.and_eq_true] at hfit
          exact hfit.1
        obtain ⟨⟨ht1, ht2⟩, hcase⟩ := (recOk_iff r).1 hok
        have hp8 : r.2.2.length ≤ 8 := by
          rcases hcase with ⟨_, h1⟩ | ⟨_, h1⟩
          · exact ((opsOk_iff _).1 h1).2.2
          · rw [h1]; simp
        have hpe := hSo.1
        exact i_take (w.heap.size + 1 + 1 + 1) (w.heap.size + 1) (w.heap.size + 1 + 1) n1 n2 g np cp f hf s.1 r.1 r.2.1 pa pl pc r.2.2 w wx (hMV.below hx) hSo hpp ht1 ht2 (by omega) (by omega) (by omega) (by omega) hr8.1 (fun e2 => hr8.2 (by
          have := (rel_fits hRel r hok).1 hfit
          rw [if_neg (by omega), if_pos e2] at this
          exact this))
      have hpl8 : Hid (fitsP s.1 f hf r = true → pl ≤ 8) := fun hfit => by
        have hok : recOk r = true := by
          unfold fitsP at hfit
          rw [Bool.and_eq_true] at hfit
          exact hfit.1
        have hpe := hSo.1
        obtain ⟨_, ⟨_, h1⟩ | ⟨_, h1⟩⟩ := (recOk_iff r).1 hok
        · have := ((opsOk_iff _).1 h1).2.2; omega
        · rw [h1] at hpe; simp at hpe; omega
      rcases hst with ⟨t, ho, hfit, ht1, htl, hRel'⟩ | ⟨ho, hno⟩
      · have hfit2 : fitsP s.1 f hf (r.1, r.2.1, r.2.2) = true := hfit
        rw [hfit2] at HF
        have hp8 := hpl8.out hfit
        have HRN : Hid (R = replayGo t (l.drop (k + 1))) := by show _ = _; rw [HD.out, ho]
        rw [← HTK.out] at hRel'
        clear HD ho HTK
        go_wp2_with (at_builtin; fail)
        rw [HV.out]
        refine HF.out.mono ?_
        rintro e w2 ⟨rfl, hb2⟩
        obtain ⟨d0, d1, d2⟩ := (hbx.below hb2).cells
        have HTK2 := Hid.mk' (HTAKE.out w2 hfit hb2)
        clear HF HV c0 c1 c2 HTAKE
        go_wp2_with (at_builtin; fail)
        refine HTK2.out.mono ?_
        rintro e w4 ⟨g4, np4, cp4, rfl, hM4⟩
        have hn4 := hM4.own.1
        rw [← ht1] at hM4 hn4
        obtain ⟨x0, x1, x2⟩ := hM4.box.cells
        have hle : ¬ (60 : Int) < (np4 : Int) := by omega
        clear HTK2 d0 d1 d2
        go_wp2_with (at_builtin; fail)
        go_roundw
        case rel => exact ⟨k + 1, g4, np4, cp4, n1 + 1, n2 + pl, _, _, t, by omega, by go_num, hM4, hRel', by omega, by omega, HRN⟩
        case measure => simp [intOf]; omega
      · have HRN : Hid (R = none) := by show _ = _; rw [HD.out, ho]
        rcases hno with hfit | ⟨hfit, hbig⟩
        · have hfit2 : fitsP s.1 f hf (r.1, r.2.1, r.2.2) = false := hfit
          rw [hfit2] at HF
          clear HD ho HTK HTAKE
          go_wp2_with (at_builtin; fail)
          rw [HV.out]
          refine HF.out.mono ?_
          rintro e w2 ⟨rfl, hb2⟩
          have hB2 := hMV.bel.trans (hb2.mono hMV.bel.size)
          have HP := Hid.mk' (repPost_none HRN.out hB2)
          clear HF HV c0 c1 c2
          go_wp2_with (at_builtin; fail)
          go_ret3
          exact HP.out
        · have hfit2 : fitsP s.1 f hf (r.1, r.2.1, r.2.2) = true := hfit
          rw [hfit2] at HF
          clear HD ho HTK
          go_wp2_with (at_builtin; fail)
          rw [HV.out]
          refine HF.out.mono ?_
          rintro e w2 ⟨rfl, hb2⟩
          obtain ⟨d0, d1, d2⟩ := (hbx.below hb2).cells
          have HTK2 := Hid.mk' (HTAKE.out w2 hfit hb2)
          clear HF HV c0 c1 c2 HTAKE
          go_wp2_with (at_builtin; fail)
          refine HTK2.out.mono ?_
          rintro e w4 ⟨g4, np4, cp4, rfl, hM4⟩
          have hn4 := hM4.own.1
          obtain ⟨x0, x1, x2⟩ := hM4.box.cells
          have hle : (60 : Int) < (np4 : Int) := by omega
          have hcm := hM4.own.cases
          have HP := Hid.mk' (repPost_none HRN.out hM4.bel)
          clear HTK2 d0 d1 d2
          go_wp2_with (at_builtin; fail)
          go_ret3
          exact HP.out
    · have HE : Hid (l.take k = l) := List.take_of_length_le (by omega)
      rw [HE.out] at hRel
      have HRN : Hid (R = some s) := by
        show _ = _
        rw [HR.out, List.drop_eq_nil_of_le (by omega)]; rfl
      have hex : ¬ (k : Int) < (l.length : Int) := by omega
      have hSR := h.below hM.bel
      have hstl := hRel.still
      have HHO : Hid (∀ wx, Below wr.heap.size wr wx → Calls Tryz.prog 157 #[.pointer (some ⟨w.heap.size + 1 + 1 + 1, 0, none⟩), .slice a l.length cap] wx fun e w' => ∃ g2 c2 hs, e = .returned (.slice (some ⟨g2, 0, none⟩) s.2.1.length c2) ∧ OwnR w' wx.heap.size (.slice (some ⟨g2, 0, none⟩) s.2.1.length c2) s.2.1 hs ∧ Below wx.heap.size wx w') := fun wx hx => by
        have := i_heldOf (w.heap.size + 1 + 1 + 1) (w.heap.size + 1) (w.heap.size + 1 + 1) n1 _ f a l.length cap l w wx (hM.below hx).box (hM.below hx).lasts (hSR.below hx) (by omega) (fun r hr => (hops r hr).1)
        rw [← hstl] at this
        exact this
      clear hstl
      obtain ⟨x0, x1, x2⟩ := hM.box.cells
      have hdr : Below wr.heap.size wr wr.drew := (Below.refl _ _).drew
      go_wp2_with (at_builtin; fail)
      go_region_with (go_at_call 157; refine (HHO.out _ hdr).mono ?_; rintro e w5 ⟨g2, c2, hs2, rfl, hO5, hb5⟩; have hb5 := hdr.trans (hb5.mono hdr.size); obtain ⟨y0, y1, y2⟩ := (hM.below hb5).box.cells)
      all_goals
        have hM5 := hM.below hb5
        have hg := hM.own.lt
        have HP : Hid (RepPost w R (.returned (.tuple #[.slice (some ⟨g, 0, none⟩) np cp, .slice (some ⟨g2, 0, none⟩) s.2.1.length c2, .bool true])) w5) := by
          show RepPost _ _ _ _
          rw [HRN.out]
          have hOw : OwnR w5 wr.heap.size (.slice (some ⟨g2, 0, none⟩) s.2.1.length c2) s.2.1 hs2 := hO5
          refine ⟨g, np, cp, g2, c2, hs2, rfl, hM5.own, hOw.mono hM.bel.size, fun hb => ?_, hM5.bel⟩
          have := (hOw.lt g hb).1
          omega
        clear hO5 HHO
        go_wp2_with (at_builtin; fail)
        refine bodyPost_ret (v := .tuple #[.slice (some ⟨g, 0, none⟩) np cp, .slice (some ⟨g2, 0, none⟩) s.2.1.length c2, .bool true]) ?_ rfl HP.out
        simp [results, Tryz.results136, go_sem]
end Go.Proofs.YtijplooogplccaaGreat.recs

namespace Go.Proofs.YtijplooogplccaaGreat.last
open Go Go.RowKit
section
variable {P : Program} {ops : Array Oper} {md : Region.Mode} {Q : Exit → Act → World → Prop} {S : World → Prop} {z : Nat}

def wpAnyL (P : Program) (md : Region.Mode) (ops : Array Oper) (Q : Exit → Act → World → Prop) (S : World → Prop) (z : Nat) : Nat → Array Bool → Act → World → Prop
  | 0, listed, a, w => Region.ready md ops listed = [] ∧ Q .normal a w
  | fuel + 1, listed, a, w =>
    (Region.ready md ops listed = [] → Q .normal a w) ∧
    ∀ i ∈ Region.ready md ops listed, wpOp P ops Q i (fun a' w' => (i ≠ z → S w') ∧ wpAnyL P md ops Q S z fuel (listed.setIfInBounds i true) a' w') a w
theorem wpAny_of_later : ∀ (fuel : Nat) (listed : Array Bool) (a : Act) (w : World), wpAnyL P md ops Q S z fuel listed a w → wpAny P md ops Q fuel listed a w
  | 0, _, _, _, h => h
  | fuel + 1, _, _, _, h => ⟨h.1, fun i hi => wpOp_mono (fun a' w' h' => wpAny_of_later fuel _ a' w' h'.2) (h.2 i hi)⟩
theorem wpAnyL_first {i : Nat} {oi : Oper} {v : Value} (hi : ops[i]? = some oi) (hsel : ∀ (j : Nat) (o : Oper) cs b, ops[j]? = some o → o.op ≠ .select cs b)
    (hQ : ∀ c a w, Q (.panic c) (a.put oi.dst v) w → Q (.panic c) a w) {oz : Oper} (hz : ops[z]? = some oz) (hzi : ∃ e ∈ oz.after, Region.binds md e = true ∧ e.on = i) :
    ∀ (fuel : Nat) (listed : Array Bool) (a : Act) (w : World),
      (∀ j oj, ops[j]? = some oj → j ≠ i → listed.getD j true = false → (∀ e ∈ oj.after, Region.binds md e = true → e.on ≠ i) → oi.apart ops oj = true) →
      i ∈ Region.ready md ops listed → YieldsIf P ops S oi v a → S w →
      wpAnyL P md ops Q S z fuel (listed.setIfInBounds i true) (a.put oi.dst v) w → wpAnyL P md ops Q S z (fuel + 1) listed a w := by
  have hnz : ∀ {listed : Array Bool} {j : Nat}, i ∈ Region.ready md ops listed → j ∈ Region.ready md ops listed → j ≠ z := fun hr hj e => by
    subst e
    obtain ⟨e, he, hb, heq⟩ := hzi
    exact both_ready hr hj hz e he hb heq
  intro fuel
  induction fuel with
  | zero =>
    intro listed a w _ hr hy hS H
    refine ⟨fun h => (by rw [h] at hr; cases hr), fun j hj => ?_⟩
    by_cases hji : j = i
    · subst hji; exact hy.wpOp hi hS ⟨fun _ => hS, H⟩
    · have := ready_mono hj hji
      rw [H.1] at this
      cases this
  | succ fuel ih =>
    intro listed a w hfree hr hy hS H
    refine ⟨fun h => (by rw [h] at hr; cases hr), fun j hj => ?_⟩
    by_cases hji : j = i
    · subst hji; exact hy.wpOp hi hS ⟨fun _ => hS, H⟩
    · have h1 := H.2 j (ready_mono hj hji)
      obtain ⟨hjun, oj, hoj, hall⟩ := mem_ready.1 hj
      have hnot : ∀ e ∈ oj.after, Region.binds md e = true → e.on ≠ i := both_ready hr hj hoj
      have h2 := wpOp_putIf hoj (hfree j oj hoj hji hjun hnot) (fun cs b => hsel i oi cs b hi) (fun cs b => hsel j oj cs b hoj) hQ hy h1
      have hfree' : ∀ k ok, ops[k]? = some ok → k ≠ i → (listed.setIfInBounds j true).getD k true = false →
          (∀ e ∈ ok.after, Region.binds md e = true → e.on ≠ i) → oi.apart ops ok = true := fun k ok hk hki hun hno => by
        refine hfree k ok hk hki ?_ hno
        by_cases hjk : j = k
        · subst hjk; exact hjun
        · rw [getD_set_ne true hjk] at hun; exact hun
      have hjz := hnz hr hj
      refine wpOp_mono (fun a' w' h3 => ⟨h3.2.1, ih (listed.setIfInBounds j true) a' w' hfree' (ready_mono hr (Ne.symm hji)) h3.1 (h3.2.1 hjz) ?_⟩) h2
      rw [Array.setIfInBounds_comm _ _ hji]
      exact h3.2.2
theorem wpAnyL_take {i : Nat} {oi oz : Oper} {v : Value} {fuel : Nat} {listed : Array Bool} {a : Act} {w : World} (hi : ops[i]? = some oi) (hz : ops[z]? = some oz)
    (hs : Region.noSelect ops = true) (hf : Region.free md ops listed i = true) (hr : (Region.ready md ops listed).contains i = true) (hw : waits md oz i = true)
    (hQ : ∀ c a w, Q (.panic c) (a.put oi.dst v) w → Q (.panic c) a w) (hy : YieldsIf P ops S oi v a) (hS : S w)
    (h : wpAnyL P md ops Q S z fuel (listed.setIfInBounds i true) (a.put oi.dst v) w) : wpAnyL P md ops Q S z (fuel + 1) listed a w := by
  have hwz : ∃ e ∈ oz.after, Region.binds md e = true ∧ e.on = i := by
    obtain ⟨e, he, hb⟩ := Array.any_eq_true'.1 hw
    simp only [Bool.and_eq_true, beq_iff_eq] at hb
    exact ⟨e, he, hb⟩
  exact wpAnyL_first hi (Region.noSelect_spec hs) hQ hz hwz fuel listed a w (Region.free_spec hi hf) (by simpa using hr) hy hS h
theorem wpAnyL_one {i : Nat} {o : Oper} {fuel : Nat} {listed : Array Bool} {a : Act} {w : World} (hr : Region.ready md ops listed = [i]) (ho : ops[i]? = some o)
    (h : ∀ K' : Act → World → Prop, Shut (∀ a w, S w → (S w → wpAnyL P md ops Q S z fuel (listed.setIfInBounds i true) a w) → K' a w) → if Region.wanted o (yielded ops a.tmps) = true then Oper.wp P o a w K' Q else K' (a.put o.dst undef) w) :
    wpAnyL P md ops Q S z (fuel + 1) listed a w :=
  by
  refine ⟨fun h0 => ?_, fun j hj => ?_⟩
  · rw [hr] at h0; cases h0
  · rw [hr] at hj
    obtain rfl := List.mem_singleton.1 hj
    exact wpOp_step ho (fun K' hK => h K' (fun a w hS hW => hK a w ⟨fun _ => hS, hW hS⟩))
theorem wpAnyL_last {o : Oper} {fuel : Nat} {listed : Array Bool} {a : Act} {w : World} (hr : Region.ready md ops listed = [z]) (ho : ops[z]? = some o) (hd : Region.ready md ops (listed.setIfInBounds z true) = [])
    (h : ∀ K' : Act → World → Prop, Shut (∀ a w, Q .normal a w → K' a w) → if Region.wanted o (yielded ops a.tmps) = true then Oper.wp P o a w K' Q else K' (a.put o.dst undef) w) :
    wpAnyL P md ops Q S z (fuel + 1) listed a w :=
  by
  refine ⟨fun h0 => ?_, fun j hj => ?_⟩
  · rw [hr] at h0; cases h0
  · rw [hr] at hj
    obtain rfl := List.mem_singleton.1 hj
    refine wpOp_step ho (fun K' hK => h K' (fun a w hq => hK a w ⟨fun h => absurd rfl h, ?_⟩))
    cases fuel with
    | zero => exact ⟨hd, hq⟩
    | succ k => exact ⟨fun _ => hq, by rw [hd]; simp⟩
theorem wp_region_later {id : Nat} {a : Act} {w : World} (z : Nat) (hm : P.follows .mixedOrders = true) (hS : S w.drew)
    (h : S w.drew → wpAnyL P .any ops Q S z ops.size (Array.replicate ops.size false) a w.drew) : (Code.region id ops true).wp P Q a w :=
  wp_region_any hm (wpAny_of_later _ _ _ _ (h hS))
end
end Go.Proofs.YtijplooogplccaaGreat.last

namespace Go.Proofs.YtijplooogplccaaGreat.stepc
open Go Go.RowKit
end Go.Proofs.YtijplooogplccaaGreat.stepc
