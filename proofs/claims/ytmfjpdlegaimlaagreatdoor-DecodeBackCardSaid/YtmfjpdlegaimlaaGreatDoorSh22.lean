/- A region that draws its order: into one operation, whatever has been done. Of no program. -/
import Derived.Test.YtmfjpdlegaimlaaGreatDoorSh21
namespace Go.Proofs.YtmfjpdlegaimlaaGreatDoor
open Go.RowKit
set_option linter.unusedVariables false
set_option linter.unusedSimpArgs false
variable {bs : Inhabited Base}

/-! ### what an operation writes, it looks at -/
section
variable {P : Program}
theorem roomS_inv {H : Hp} {e : TypeId} {n : Nx} {v : Value} {H' : Hp} (h : roomS H e n = .val v H') : n = .val v H' := by
  unfold roomS at h
  rcases cond_split h with ⟨_, h⟩ | ⟨_, h⟩
  · exact h
  · cases h
theorem newS_wrote {H : Hp} {cs : List Value} {e : TypeId} {n : Nat} {v : Value} {H' : Hp} (h : newS H cs e n = .val v H') : H'.wrote = H.wrote := by
  have h := roomS_inv h
  cases h; rfl
theorem newL_wrote {H : Hp} {cs : List Value} {e : TypeId} {n m : Nat} {v : Value} {H' : Hp} (h : newL H cs e n m = .val v H') : H'.wrote = H.wrote := by
  have h := roomS_inv h
  cases h; rfl
theorem nx_of_wrote {H H' : Hp} {n : Nat} {x : Option Value} {v : Value} (h : Nx.of n H x = .val v H') : H'.wrote = H.wrote := by
  cases x with
  | some u => cases h; rfl
  | none => cases h
theorem load_wrote {H H' : Hp} {t : TypeId} {x v : Value} (h : loadS P H t x = .val v H') : H'.wrote = H.wrote := by
  unfold loadS at h
  split at h
  · unfold loadB at h
    split at h
    · split at h
      · split at h <;> cases h; rfl
      · split at h <;> cases h; rfl
      · cases h
    · cases h
  · cases h
theorem wroteS_in {H : Hp} {i g : Nat} (h : g ∈ wroteS H i) : g = i ∨ g ∈ H.wrote := by
  unfold wroteS at h
  cases hc : (Nat.blt i H.old && !(memN H.wrote i)) with
  | true => rw [hc] at h; exact List.mem_cons.1 h
  | false => rw [hc] at h; exact .inr h
theorem store_wrote {H H' : Hp} {t : TypeId} {x v : Value} (h : storeS P H t v x = .skip H') : ∀ g, g ∈ H'.wrote → grpAt H (placeOf x) = some g ∨ g ∈ H.wrote := by
  unfold storeS at h
  split at h
  · rename_i b off
    unfold storeB at h
    split at h
    · rename_i k hk
      split at h
      · rcases cond_split h with ⟨_, h⟩ | ⟨_, h⟩
        · cases h
          intro g hg
          have hg : g ∈ wroteS H k.grp := hg
          rcases wroteS_in hg with rfl | hg
          · left
            show grpAt H (some b) = _
            unfold grpAt
            simp only [(read_inv hk).1]
          · exact .inr hg
        · cases h
      · cases h
    · cases h
  · cases h
theorem ran_wr {call : FuncId → List Value → Hp → Ret} {β : Bij} {R : Regs} {a : Act} (h : RR β R a.tmps) (o : Oper) {H : Hp} (h0 : H.wrote = []) {v : Value} {H' : Hp} (hran : Ran call (opS P R H o.type o.op) v H') (hb : ∀ g, g ∈ H'.wrote → memN H.ban g = false) : ∀ g, g ∈ H'.wrote → (rddOf H R H.ban o.op).has g = true := by
  intro g hg
  have but : rddOf H R H.ban o.op = .but H.ban → (rddOf H R H.ban o.op).has g = true := by
    intro e
    rw [e]
    show (!(memN H.ban g)) = true
    rw [hb g hg]; rfl
  have none : H'.wrote = H.wrote → (rddOf H R H.ban o.op).has g = true := by
    intro e
    rw [e, h0] at hg; cases hg
  by_cases hp : pureO o.op = true
  · have := pure_run (P := P) (H := H) h o hp
    rcases hran with e | ⟨e, _⟩ | ⟨f, args, H2, e, _⟩
    · rw [e] at this
      exact none (by rw [this.1])
    · rw [e] at this; exact this.elim
    · rw [e] at this; exact this.elim
  have hpf : pureO o.op = false := by simpa using hp
  have val : (∀ H2, opS P R H o.type o.op ≠ .skip H2) → (∀ f args H2, opS P R H o.type o.op ≠ .enter f args H2) → opS P R H o.type o.op = .val v H' := by
    intro h1 h2
    rcases hran with e | ⟨e, _⟩ | ⟨f, args, H2, e, _⟩
    · exact e
    · exact absurd e (h1 _)
    · exact absurd e (h2 _ _ _)
  cases ho : o.op with
  | store t x y =>
    rw [ho] at hran
    rcases hran with e | ⟨e, _⟩ | ⟨f, args, H2, e, _⟩
    · exfalso
      have e' : storeS P H t (evS R y) (evS R x) = .val v H' := e
      unfold storeS at e'
      split at e'
      · unfold storeB at e'
        split at e'
        · split at e'
          · rcases cond_split e' with ⟨_, h⟩ | ⟨_, h⟩ <;> cases h
          · cases e'
        · cases e'
      · cases e'
    · have e' : storeS P H t (evS R y) (evS R x) = .skip H' := e
      rcases store_wrote e' g hg with h1 | h1
      · show (oneOf (grpAt H (placeOf (evS R x)))).has g = true
        rw [h1]
        exact beq_t rfl
      · rw [h0] at h1; cases h1
    · exfalso
      have e' : storeS P H t (evS R y) (evS R x) = .enter f args H2 := e
      unfold storeS at e'
      split at e'
      · unfold storeB at e'
        split at e'
        · split at e'
          · rcases cond_split e' with ⟨_, h⟩ | ⟨_, h⟩ <;> cases h
          · cases e'
        · cases e'
      · cases e'
  | load t x =>
    refine ho ▸ none ?_
    rw [ho] at hran
    have key : ∀ n, loadS P H t (evS R x) = n → (∃ v, n = .val v H) ∨ ∃ k, n = .bad k := by
      intro n e
      unfold loadS at e
      split at e
      · unfold loadB at e
        split at e
        · split at e
          · split at e <;> subst e
            · exact .inl ⟨_, rfl⟩
            · exact .inr ⟨_, rfl⟩
          · split at e <;> subst e
            · exact .inl ⟨_, rfl⟩
            · exact .inr ⟨_, rfl⟩
          · subst e; exact .inr ⟨_, rfl⟩
        · subst e; exact .inr ⟨_, rfl⟩
      · subst e; exact .inr ⟨_, rfl⟩
    rcases hran with e | ⟨e, _⟩ | ⟨f, args, H2, e, _⟩
    · exact load_wrote (P := P) (x := evS R x) (t := t) e
    · rcases key _ e with ⟨_, h⟩ | ⟨_, h⟩ <;> cases h
    · rcases key _ e with ⟨_, h⟩ | ⟨_, h⟩ <;> cases h
  | alloc e =>
    refine ho ▸ none ?_
    rw [ho] at hran
    have key : ∀ n, allocS P H e = n → (∃ v H', n = .val v H' ∧ H'.wrote = H.wrote) ∨ ∃ k, n = .bad k := by
      intro n e
      unfold allocS at e
      split at e
      · unfold newS roomS at e
        rcases cond_split e with ⟨_, h⟩ | ⟨_, h⟩
        · subst h; exact .inl ⟨_, _, rfl, rfl⟩
        · subst h; exact .inr ⟨_, rfl⟩
      · subst e; exact .inr ⟨_, rfl⟩
    rcases hran with e | ⟨e, _⟩ | ⟨f, args, H2, e, _⟩
    · rcases key _ e with ⟨_, _, h, h'⟩ | ⟨_, h⟩ <;> cases h; exact h'
    · rcases key _ e with ⟨_, _, h, h'⟩ | ⟨_, h⟩ <;> cases h
    · rcases key _ e with ⟨_, _, h, h'⟩ | ⟨_, h⟩ <;> cases h
  | box e x =>
    refine ho ▸ none ?_
    rw [ho] at hran
    have key : ∀ n, opS P R H o.type (.box e x) = n → (∃ v H', n = .val v H' ∧ H'.wrote = H.wrote) ∨ ∃ k, n = .bad k := by
      intro n e
      rcases cond_split (show cond _ (newS H _ _ _) _ = n from e) with ⟨_, e⟩ | ⟨_, e⟩
      · unfold newS roomS at e
        rcases cond_split e with ⟨_, h⟩ | ⟨_, h⟩
        · subst h; exact .inl ⟨_, _, rfl, rfl⟩
        · subst h; exact .inr ⟨_, rfl⟩
      · subst e; exact .inr ⟨_, rfl⟩
    rcases hran with e | ⟨e, _⟩ | ⟨f, args, H2, e, _⟩
    · rcases key _ e with ⟨_, _, h, h'⟩ | ⟨_, h⟩ <;> cases h; exact h'
    · rcases key _ e with ⟨_, _, h, h'⟩ | ⟨_, h⟩ <;> cases h
    · rcases key _ e with ⟨_, _, h, h'⟩ | ⟨_, h⟩ <;> cases h
  | build t ps =>
    refine ho ▸ none ?_
    rw [ho] at hran
    have key : ∀ n, Nx.of 79 H (buildS P t (partsS R ps)) = n → (∃ v H', n = .val v H' ∧ H'.wrote = H.wrote) ∨ ∃ k, n = .bad k := by
      intro n e
      cases hb : buildS P t (partsS R ps) with
      | some u => rw [hb] at e; subst e; exact .inl ⟨_, _, rfl, rfl⟩
      | none => rw [hb] at e; subst e; exact .inr ⟨_, rfl⟩
    rcases hran with e | ⟨e, _⟩ | ⟨f, args, H2, e, _⟩
    · rcases key _ e with ⟨_, _, h, h'⟩ | ⟨_, h⟩ <;> cases h; exact h'
    · rcases key _ e with ⟨_, _, h, h'⟩ | ⟨_, h⟩ <;> cases h
    · rcases key _ e with ⟨_, _, h, h'⟩ | ⟨_, h⟩ <;> cases h
  | buildSlice t n ps =>
    refine ho ▸ none ?_
    rw [ho] at hran
    have key : ∀ m, buildSliceS P H t n (partsS R ps) = m → (∃ v H', m = .val v H' ∧ H'.wrote = H.wrote) ∨ ∃ k, m = .bad k := by
      intro n e
      unfold buildSliceS at e
      split at e
      · split at e
        · split at e
          · rcases cond_split e with ⟨_, e⟩ | ⟨_, e⟩
            · unfold newL roomS at e
              rcases cond_split e with ⟨_, h⟩ | ⟨_, h⟩
              · subst h; exact .inl ⟨_, _, rfl, rfl⟩
              · subst h; exact .inr ⟨_, rfl⟩
            · subst e; exact .inr ⟨_, rfl⟩
          · subst e; exact .inr ⟨_, rfl⟩
        · subst e; exact .inr ⟨_, rfl⟩
      · subst e; exact .inr ⟨_, rfl⟩
    rcases hran with e | ⟨e, _⟩ | ⟨f, args, H2, e, _⟩
    · rcases key _ e with ⟨_, _, h, h'⟩ | ⟨_, h⟩ <;> cases h; exact h'
    · rcases key _ e with ⟨_, _, h, h'⟩ | ⟨_, h⟩ <;> cases h
    · rcases key _ e with ⟨_, _, h, h'⟩ | ⟨_, h⟩ <;> cases h
  | makeSlice t l c =>
    refine ho ▸ none ?_
    rw [ho] at hran
    have key : ∀ m, makeSliceS P H t (evS R l) (evS R c) = m → (∃ v H', m = .val v H' ∧ H'.wrote = H.wrote) ∨ ∃ k, m = .bad k := by
      intro n e
      unfold makeSliceS at e
      split at e
      · split at e
        · rcases cond_split e with ⟨_, e⟩ | ⟨_, e⟩
          · unfold newL roomS at e
            rcases cond_split e with ⟨_, h⟩ | ⟨_, h⟩
            · subst h; exact .inl ⟨_, _, rfl, rfl⟩
            · subst h; exact .inr ⟨_, rfl⟩
          · subst e; exact .inr ⟨_, rfl⟩
        · subst e; exact .inr ⟨_, rfl⟩
      · subst e; exact .inr ⟨_, rfl⟩
    rcases hran with e | ⟨e, _⟩ | ⟨f, args, H2, e, _⟩
    · rcases key _ e with ⟨_, _, h, h'⟩ | ⟨_, h⟩ <;> cases h; exact h'
    · rcases key _ e with ⟨_, _, h, h'⟩ | ⟨_, h⟩ <;> cases h
    · rcases key _ e with ⟨_, _, h, h'⟩ | ⟨_, h⟩ <;> cases h
  | _ => first | (rw [ho] at hpf; cases hpf; done) | (refine ho ▸ but ?_; rw [ho]; rw [ho] at hpf; first | rfl | (show cond (pureO _) _ _ = _; rw [hpf]; rfl))
end
end Go.Proofs.YtmfjpdlegaimlaaGreatDoor
