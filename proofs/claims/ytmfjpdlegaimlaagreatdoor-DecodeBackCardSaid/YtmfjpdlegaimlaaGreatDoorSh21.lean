/- A region that draws its order: what holds whatever has been done. Of no program. -/
import Derived.Test.YtmfjpdlegaimlaaGreatDoorSh20
namespace Go.Proofs.YtmfjpdlegaimlaaGreatDoor
open Go.RowKit
set_option linter.unusedVariables false
set_option linter.unusedSimpArgs false
variable {bs : Inhabited Base}

section
variable {L : List Oper} {R0 : Regs} {β0 : Bij} {Rs : Nat → Regs} {Hs : Nat → Hp} {V : Nat → Value} {H1 : Nat → Hp} {ex : Nat → Prop} {rd : Nat → Rdd}

theorem Facts.next_mono (F : Facts L R0 β0 Rs Hs V H1 ex) {i j : Nat} (hij : i ≤ j) (hj : j ≤ L.length) : (Hs i).next ≤ (Hs j).next := by
  induction j with
  | zero =>
    obtain rfl : i = 0 := (by omega)
    exact Nat.le_refl _
  | succ j ih =>
    rcases Nat.lt_or_ge j i with h | h
    · obtain rfl : i = j + 1 := (by omega)
      exact Nat.le_refl _
    · exact Nat.le_trans (ih h (by omega)) (F.next j (by omega))
theorem Facts.same_mono (F : Facts L R0 β0 Rs Hs V H1 ex) {i j b : Nat} {q : Blk} (hij : i ≤ j) (hj : j ≤ L.length) (hq : (Hs i).tr.get b = some q) : ∃ q', (Hs j).tr.get b = some q' ∧ q'.size = q.size ∧ q'.grp = q.grp := by
  induction j with
  | zero =>
    obtain rfl : i = 0 := (by omega)
    exact ⟨q, hq, rfl, rfl⟩
  | succ j ih =>
    rcases Nat.lt_or_ge j i with h | h
    · obtain rfl : i = j + 1 := (by omega)
      exact ⟨q, hq, rfl, rfl⟩
    · obtain ⟨q1, h1, h2, h3⟩ := ih h (by omega)
      obtain ⟨q2, h4, h5, h6⟩ := F.same j (by omega) b q1 h1
      exact ⟨q2, h4, h5.trans h2, h6.trans h3⟩
theorem Facts.keep_mono (F : Facts L R0 β0 Rs Hs V H1 ex) {i j b : Nat} {q : Blk} (hij : i ≤ j) (hj : j ≤ L.length) (hq : (Hs i).tr.get b = some q) (hn : ∀ k, i ≤ k → k < j → ex k → q.grp ∉ (H1 k).wrote) : (Hs j).tr.get b = some q ∧ (Hs j).since q = (Hs i).since q := by
  induction j with
  | zero =>
    obtain rfl : i = 0 := (by omega)
    exact ⟨hq, rfl⟩
  | succ j ih =>
    rcases Nat.lt_or_ge j i with h | h
    · obtain rfl : i = j + 1 := (by omega)
      exact ⟨hq, rfl⟩
    · obtain ⟨h1, h2⟩ := ih h (by omega) (fun k h1 h2 => hn k h1 (by omega))
      obtain ⟨h3, h4⟩ := F.keep j (by omega) b q h1 (hn j h (by omega))
      exact ⟨h3, h4.trans h2⟩
theorem Facts.alike (F : Facts L R0 β0 Rs Hs V H1 ex) {i j b : Nat} {q q' : Blk} (hi : i ≤ L.length) (hj : j ≤ L.length) (hq : (Hs i).tr.get b = some q) (hq' : (Hs j).tr.get b = some q') : q.grp = q'.grp ∧ q.size = q'.size := by
  obtain ⟨q1, h1, h2, h3⟩ := F.same_mono hi (Nat.le_refl _) hq
  obtain ⟨q2, h4, h5, h6⟩ := F.same_mono hj (Nat.le_refl _) hq'
  rw [h1] at h4; cases h4
  exact ⟨h3.symm.trans h6, h2.symm.trans h5⟩
theorem Facts.rec_of (F : Facts L R0 β0 Rs Hs V H1 ex) {j b : Nat} {q : Blk} (hj : j ≤ L.length) (hb : b < (Hs j).next) (hq : (Hs L.length).tr.get b = some q) : ∃ q', (Hs j).tr.get b = some q' ∧ q'.grp = q.grp ∧ q'.size = q.size := by
  have h1 := (F.wf _ (Nat.le_refl _)).pos hq
  obtain ⟨q', h2⟩ := (F.wf j hj).all b h1.1 hb
  have := F.alike hj (Nat.le_refl _) h2 hq
  exact ⟨q', h2, this.1, this.2⟩
theorem Facts.wrote_mono (F : Facts L R0 β0 Rs Hs V H1 ex) {i j g : Nat} (hij : i ≤ j) (hj : j ≤ L.length) (hg : g ∈ (Hs i).wrote) : g ∈ (Hs j).wrote := by
  induction j with
  | zero =>
    obtain rfl : i = 0 := (by omega)
    exact hg
  | succ j ih =>
    rcases Nat.lt_or_ge j i with h | h
    · obtain rfl : i = j + 1 := (by omega)
      exact hg
    · exact F.more j (by omega) g (ih h (by omega))
theorem Facts.came_from (F : Facts L R0 β0 Rs Hs V H1 ex) {j g : Nat} (hj : j ≤ L.length) (hg : g ∈ (Hs j).wrote) : g ∈ (Hs 0).wrote ∨ ∃ i, i < j ∧ ex i ∧ g ∈ (H1 i).wrote ∧ g < (Hs 0).old := by
  induction j with
  | zero => exact .inl hg
  | succ j ih =>
    rcases F.came j (by omega) g hg with h | ⟨h1, h2, h3⟩
    · rcases ih (by omega) h with h | ⟨i, h1, h2⟩
      · exact .inl h
      · exact .inr ⟨i, by omega, h2⟩
    · exact .inr ⟨j, by omega, h1, h2, h3⟩
end

/-- made there -/
def New (Hs : Nat → Hp) (d b : Nat) : Prop := (Hs d).next ≤ b ∧ b < (Hs (d + 1)).next
def Touch (Hs H1 : Nat → Hp) (ex : Nat → Prop) (i g : Nat) : Prop := ex i ∧ (g ∈ (H1 i).wrote ∨ New Hs i g)
/-- how far a group is -/
def Stage (n : Nat) (Hs H1 : Nat → Hp) (ex D : Nat → Prop) (g s : Nat) : Prop := ∀ i, i < n → Touch Hs H1 ex i g → (D i ↔ i < s)
def Rooted (Hs : Nat → Hp) (ex D : Nat → Prop) (g : Nat) : Prop := g < (Hs 0).next ∨ ∃ d, D d ∧ ex d ∧ New Hs d g
def Born (Hs H1 : Nat → Hp) (ex D : Nat → Prop) (b g : Nat) : Prop := b < (Hs 0).next ∨ ∃ d, D d ∧ ex d ∧ New Hs d b ∧ (g ∈ (H1 d).wrote ∨ (Hs d).next ≤ g)
theorem New.unique {L : List Oper} {R0 : Regs} {β0 : Bij} {Rs : Nat → Regs} {Hs : Nat → Hp} {V : Nat → Value} {H1 : Nat → Hp} {ex : Nat → Prop} (F : Facts L R0 β0 Rs Hs V H1 ex) {d d' b : Nat} (h : New Hs d b) (h' : New Hs d' b) (hd : d < L.length) (hd' : d' < L.length) : d = d' := by
  rcases Nat.lt_trichotomy d d' with e | e | e
  · have := F.next_mono (i := d + 1) (j := d') (by omega) (by omega)
    have h1 := h.2; have h2 := h'.1; omega
  · exact e
  · have := F.next_mono (i := d' + 1) (j := d) (by omega) (by omega)
    have h1 := h'.2; have h2 := h.1; omega
theorem New.old {L : List Oper} {R0 : Regs} {β0 : Bij} {Rs : Nat → Regs} {Hs : Nat → Hp} {V : Nat → Value} {H1 : Nat → Hp} {ex : Nat → Prop} (F : Facts L R0 β0 Rs Hs V H1 ex) {d b : Nat} (h : New Hs d b) (hd : d < L.length) : (Hs 0).next ≤ b :=
  Nat.le_trans (F.next_mono (Nat.zero_le d) (by omega)) h.1

/-- whatever has been done -/
structure Inv [Inhabited Base] (L : List Oper) (R0 : Regs) (N : Nat) (β0 : Bij) (w0 : World) (Hs : Nat → Hp) (V : Nat → Value) (H1 : Nat → Hp) (ex D : Nat → Prop) (β : Bij) (a : Act) (w : World) : Prop where
  cl : Closed L D
  lt : ∀ j, D j → j < L.length
  blk : ∀ b k, β b = some k → k.blk < w.heap.size
  rec_ : ∀ b k, β b = some k → ∃ q, (Hs L.length).tr.get b = some q ∧ q.size = k.size ∧ Born Hs H1 ex D b q.grp ∧ Rooted Hs ex D q.grp
  root : ∀ i, D i → ex i → ∀ g, g ∈ (H1 i).wrote → Rooted Hs ex D g
  share : ∀ b b' k k' q q', β b = some k → β b' = some k' → (Hs L.length).tr.get b = some q → (Hs L.length).tr.get b' = some q' → k.blk = k'.blk → q.grp = q'.grp
  row : ∀ b k s q, β b = some k → s ≤ L.length → (Hs s).tr.get b = some q → Stage L.length Hs H1 ex D q.grp s → (Hs s).since q ≤ b → memN (Hs 0).ban q.grp = false → RowV β q k w
  reg0 : ∀ t, (∀ (j : Nat) (o : Oper), D j → L[j]? = some o → o.dst ≠ some t) → VR β (getR R0 t) (a.tmps.getD t undef)
  reg1 : ∀ t (j : Nat) (o : Oper), D j → L[j]? = some o → o.dst = some t → (∀ (i : Nat) (o' : Oper), D i → L[i]? = some o' → o'.dst = some t → i ≤ j) → VR β (V j) (a.tmps.getD t undef)
  size : N ≤ a.tmps.size
  top : a.tmps.size ≤ 1000
  defers : a.defers = []
  os : w.os = w0.os
  tape : w.tape = w0.tape
  output : w.output = w0.output
  wsz : w0.heap.size ≤ w.heap.size
  ext : Ext β0 β
  block : ∀ r, r < w0.heap.size → (∀ b k q, β0 b = some k → (Hs 0).tr.get b = some q → k.blk = r → q.grp < (Hs 0).old ∧ q.grp ∉ (Hs L.length).wrote) → w.heap[r]? = w0.heap[r]?
  new : ∀ b k, β b = some k → β0 b = some k ∨ ((Hs 0).next ≤ b ∧ ∃ q', (Hs L.length).tr.get b = some q' ∧ (((Hs 0).next ≤ q'.grp ∧ w0.heap.size ≤ k.blk) ∨ ∃ b0 k0 q0, β0 b0 = some k0 ∧ (Hs 0).tr.get b0 = some q0 ∧ q0.grp = q'.grp ∧ ¬ (q0.grp < (Hs 0).old ∧ q0.grp ∉ (Hs L.length).wrote) ∧ (w0.heap.size ≤ k.blk ∨ k0.blk = k.blk)))
  wd : ∀ i, D i → ex i → ∀ g, g ∈ (H1 i).wrote → g < (Hs 0).old → memN (Hs 0).ban g = false ∧ ∃ b0 k0 q0, β0 b0 = some k0 ∧ (Hs 0).tr.get b0 = some q0 ∧ q0.grp = g
  full : ∀ d, D d → ∀ b, New Hs d b → ∃ k, β b = some k
  low : ∀ b k, baseAt b = some k → β b = some k ∧ b < (Hs 0).next
  fix : ∀ r o, baseRow r = some o → w.heap[r]? = some o
  apart : ∀ b k, β b = some k → baseRow k.blk = none

section
variable {P : Program} {call : FuncId → List Value → Hp → Ret} {L : List Oper} {R0 : Regs} {N : Nat} {β0 : Bij} {a0 : Act} {w0 : World}
variable {Rs : Nat → Regs} {Hs : Nat → Hp} {V : Nat → Value} {H1 : Nat → Hp} {ex : Nat → Prop} {rd : Nat → Rdd}
theorem noneIn_spec {r : Rdd} {g : Nat} : ∀ {l : List Nat}, noneIn l r = true → g ∈ l → r.has g = false
  | [], _, h => by cases h
  | x :: l, h, hg => by
    have h' : cond (r.has x) false (noneIn l r) = true := h
    cases hx : r.has x with
    | true => rw [hx] at h'; cases h'
    | false =>
      rw [hx] at h'
      rcases List.mem_cons.1 hg with rfl | hg
      · exact hx
      · exact noneIn_spec h' hg
/-- two that have to do with one group, one writing it, are ordered -/
theorem ordered (T : Trace P call L R0 Rs Hs V H1 ex rd) (hd : DrawOk L) {i j : Nat} (hi : i < L.length) (hj : j < L.length) (hij : i ≠ j) (hei : ex i) (hej : ex j) {g : Nat} (hg : g ∈ (H1 i).wrote) (hr : (rd j).has g = true) :
    (i < j ∧ bitS (maskS L j) i = true) ∨ (j < i ∧ bitS (maskS L i) j = true) := by
  have key : ∀ i j, i < j → j < L.length → ordB L i j = true → bitS (maskS L j) i = true := by
    intro i j h h2 ho
    rcases Bool.or_eq_true_iff.1 ho with h1 | h1
    · exact h1
    · have := mask_lt hd i _ (List.getElem?_eq_getElem (by omega)) j h1
      omega
  rcases Nat.lt_or_ge i j with h | h
  · left
    refine ⟨h, ?_⟩
    rcases T.apart i j h hj hei hej with h1 | ⟨h1, _⟩
    · exact key i j h hj h1
    · have := noneIn_spec h1 hg; rw [hr] at this; cases this
  · right
    refine ⟨by omega, ?_⟩
    rcases T.apart j i (by omega) hi hej hei with h1 | ⟨_, h1⟩
    · exact key j i (by omega) hi h1
    · have := noneIn_spec h1 hg; rw [hr] at this; cases this
end
end Go.Proofs.YtmfjpdlegaimlaaGreatDoor
