/- A region that draws its order: what stands ahead of what. Of no program. -/
import Derived.Test.YtmfjpdlegaimlaaGreatDoorSh15
namespace Go.Proofs.YtmfjpdlegaimlaaGreatDoor
open Go.RowKit
set_option linter.unusedVariables false
set_option linter.unusedSimpArgs false
variable {bs : Inhabited Base}

theorem bit_eq (m i : Nat) : bitS m i = m.testBit i := by
  rw [Nat.testBit_eq_decide_div_mod_eq]
  unfold bitS
  by_cases h : m / 2 ^ i % 2 = 1
  · rw [beq_t (show Nat.mod (Nat.div m (Nat.pow 2 i)) 2 = 1 from h)]; simp [h]
  · rw [beq_f (show ¬ Nat.mod (Nat.div m (Nat.pow 2 i)) 2 = 1 from h)]; simp [h]
noncomputable def mk (acc : List Nat) (k : Nat) : Nat := match nth acc k with | some m => m | none => 0
theorem edges_bit (acc : List Nat) (i : Nat) : ∀ es : List Edge, bitS (edgesS acc es) i = true → ∃ e, e ∈ es ∧ Region.binds .any e = true ∧ (e.on = i ∨ bitS (mk acc e.on) i = true)
  | [], h => by
    rw [bit_eq] at h
    have : (0 : Nat).testBit i = true := h
    simp at this
  | e :: r, h => by
    have h' : bitS (cond (Region.binds .any e) (Nat.lor (Nat.lor (Nat.pow 2 e.on) (mk acc e.on)) (edgesS acc r)) (edgesS acc r)) i = true := h
    cases hb : Region.binds .any e with
    | false =>
      rw [hb] at h'
      obtain ⟨e', h1, h2⟩ := edges_bit acc i r h'
      exact ⟨e', List.mem_cons_of_mem _ h1, h2⟩
    | true =>
      rw [hb] at h'
      have h2 : ((2 ^ e.on ||| mk acc e.on) ||| edgesS acc r).testBit i = true := by rw [← bit_eq]; exact h'
      rw [Nat.testBit_or, Nat.testBit_or, Bool.or_eq_true, Bool.or_eq_true] at h2
      rcases h2 with (h2 | h2) | h2
      · rw [Nat.testBit_two_pow] at h2
        exact ⟨e, List.mem_cons_self .., hb, .inl (by simpa using h2)⟩
      · exact ⟨e, List.mem_cons_self .., hb, .inr (by rw [bit_eq]; exact h2)⟩
      · obtain ⟨e', h3, h4⟩ := edges_bit acc i r (by rw [bit_eq]; exact h2)
        exact ⟨e', List.mem_cons_of_mem _ h3, h4⟩
theorem ahead_spec : ∀ (l : List Oper) (acc : List Nat), ∃ tail, aheadS l acc = acc ++ tail ∧ tail.length = l.length ∧ ∀ (i : Nat) (o : Oper), l[i]? = some o → (acc ++ tail)[acc.length + i]? = some (edgesS ((acc ++ tail).take (acc.length + i)) o.after.toList)
  | [], acc => ⟨[], by simp [aheadS], rfl, fun i o h => by simp at h⟩
  | o :: r, acc => by
    obtain ⟨tail, h1, h2, h3⟩ := ahead_spec r (acc ++ [edgesS acc o.after.toList])
    refine ⟨edgesS acc o.after.toList :: tail, ?_, by simp [h2], fun i x hx => ?_⟩
    · show aheadS r (catL acc [edgesS acc o.after.toList]) = _
      rw [catL_eq, h1]; simp
    · cases i with
      | zero =>
        simp at hx; subst hx
        simp
      | succ i =>
        have := h3 i x (by simpa using hx)
        simp only [List.length_append, List.length_singleton, List.append_assoc, List.singleton_append] at this
        rw [show acc.length + (i + 1) = acc.length + 1 + i by omega]
        exact this
theorem mask_spec {L : List Oper} {j : Nat} {o : Oper} (h : L[j]? = some o) {i : Nat} (hb : bitS (maskS L j) i = true) : ∃ e, e ∈ o.after.toList ∧ Region.binds .any e = true ∧ (e.on = i ∨ (e.on < j ∧ bitS (maskS L e.on) i = true)) := by
  obtain ⟨tail, h1, h2, h3⟩ := ahead_spec L []
  simp only [List.nil_append, List.length_nil, Nat.zero_add] at h1 h3
  have hm := h3 j o h
  have e1 : maskS L j = edgesS (tail.take j) o.after.toList := by
    unfold maskS
    rw [h1, nth_eq, hm]
  rw [e1] at hb
  obtain ⟨e, h4, h5, h6⟩ := edges_bit _ i _ hb
  refine ⟨e, h4, h5, ?_⟩
  rcases h6 with h6 | h6
  · exact .inl h6
  · right
    unfold mk at h6
    rw [nth_eq, List.getElem?_take] at h6
    split at h6
    · rename_i m hm'
      split at hm'
      · rename_i hlt
        refine ⟨hlt, ?_⟩
        unfold maskS
        rw [h1, nth_eq, hm']; exact h6
      · cases hm'
    · rw [bit_eq] at h6; simp at h6
theorem allI_spec {α : Type} (f : Nat → α → Bool) : ∀ (l : List α) (k : Nat), allI f l k = true → ∀ (i : Nat) (x : α), l[i]? = some x → f (k + i) x = true
  | [], k, h, i, x, hx => by simp at hx
  | a :: r, k, h, i, x, hx => by
    have h' : cond (f k a) (allI f r (Nat.succ k)) false = true := h
    cases hf : f k a with
    | false => rw [hf] at h'; cases h'
    | true =>
      rw [hf] at h'
      cases i with
      | zero => simp at hx; subst hx; simpa using hf
      | succ i =>
        have := allI_spec f r (k + 1) h' i x (by simpa using hx)
        rw [show k + (i + 1) = k + 1 + i by omega]; exact this
/-- two operations that name what the other one writes -/
def Meets (L : List Oper) (o o' : Oper) : Prop := (∃ d, o'.dst = some d ∧ d ∈ namesOf L o) ∨ (∃ d, o.dst = some d ∧ d ∈ namesOf L o')
structure DrawOk (L : List Oper) : Prop where
  small : ∀ (j : Nat) (o : Oper), L[j]? = some o → ∀ t, t ∈ namesOf L o → t < 1000
  back : ∀ (j : Nat) (o : Oper), L[j]? = some o → ∀ e, e ∈ o.after.toList → Region.binds .any e = true → e.on < j
  meet : ∀ (i j : Nat) (o o' : Oper), L[j]? = some o → L[i]? = some o' → i < j → Meets L o o' → bitS (maskS L j) i = true
theorem drawOk_spec {L : List Oper} (h : drawOk L = true) : DrawOk L := by
  have h1 := allI_spec _ L 0 h
  refine ⟨fun j o hj t ht => ?_, fun j o hj e he hb => ?_, fun i j o o' hj hi hij hm => ?_⟩
  · have h2 := h1 j o hj
    simp only [Nat.zero_add, Bool.and_eq_true] at h2
    have h3 := h2.1.1.1
    rw [List.all_eq_true] at h3
    exact Nat.le_of_ble_eq_true (h3 t ht)
  · have h2 := h1 j o hj
    simp only [Nat.zero_add, Bool.and_eq_true] at h2
    have h3 := h2.1.1.2
    rw [List.all_eq_true] at h3
    have h4 := h3 e he
    rw [hb] at h4
    have h5 : Nat.blt e.on j = true := by simpa using h4
    exact Nat.le_of_ble_eq_true h5
  · have h2 := h1 j o hj
    simp only [Nat.zero_add, Bool.and_eq_true] at h2
    have h3 := allI_spec _ L 0 h2.2 i o' hi
    simp only [Nat.zero_add, Bool.or_eq_true] at h3
    rcases h3 with h3 | h3 | h3
    · exact absurd (of_ble h3) (by omega)
    · exfalso
      rw [Bool.and_eq_true] at h3
      rcases hm with ⟨d, h4, h5⟩ | ⟨d, h4, h5⟩
      · have := h3.1; rw [h4] at this; simp at this; rw [(memN_eq _ _).2 h5] at this; cases this
      · have := h3.2; rw [h4] at this; simp at this; rw [(memN_eq _ _).2 h5] at this; cases this
    · exact h3
theorem mask_lt {L : List Oper} (hd : DrawOk L) : ∀ (j : Nat) (o : Oper), L[j]? = some o → ∀ i, bitS (maskS L j) i = true → i < j := by
  intro j
  induction j using Nat.strongRecOn with
  | ind j ih =>
    intro o ho i hb
    obtain ⟨e, h1, h2, h3⟩ := mask_spec ho hb
    have h4 := hd.back j o ho e h1 h2
    rcases h3 with h3 | ⟨h3, h5⟩
    · omega
    · have hlt : e.on < L.length := by have := (List.getElem?_eq_some_iff.1 ho).1; omega
      have := ih e.on h4 _ (List.getElem?_eq_getElem hlt) i h5
      omega
/-- what has been done: all that stands ahead of it, too -/
def Closed (L : List Oper) (D : Nat → Prop) : Prop := ∀ (j : Nat) (o : Oper), L[j]? = some o → D j → ∀ e, e ∈ o.after.toList → Region.binds .any e = true → D e.on
def Ready (L : List Oper) (D : Nat → Prop) (j : Nat) : Prop := ∀ o, L[j]? = some o → ∀ e, e ∈ o.after.toList → Region.binds .any e = true → D e.on
theorem mask_in {L : List Oper} (hd : DrawOk L) {D : Nat → Prop} (hc : Closed L D) : ∀ (j : Nat) (o : Oper), L[j]? = some o → Ready L D j → ∀ i, bitS (maskS L j) i = true → D i := by
  intro j
  induction j using Nat.strongRecOn with
  | ind j ih =>
    intro o ho hr i hb
    obtain ⟨e, h1, h2, h3⟩ := mask_spec ho hb
    have h4 := hr o ho e h1 h2
    rcases h3 with h3 | ⟨h3, h5⟩
    · rw [← h3]; exact h4
    · have hlt : e.on < L.length := by have := (List.getElem?_eq_some_iff.1 ho).1; omega
      have hoe := List.getElem?_eq_getElem hlt
      refine ih e.on h3 _ hoe (fun o' ho' e' he' hb' => hc e.on o' ho' h4 e' he' hb') i h5
end Go.Proofs.YtmfjpdlegaimlaaGreatDoor
