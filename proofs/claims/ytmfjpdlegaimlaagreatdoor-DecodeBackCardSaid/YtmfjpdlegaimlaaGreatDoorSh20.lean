/- A region that draws its order: what holds in text order. Of no program. -/
import Derived.Test.YtmfjpdlegaimlaaGreatDoorSh19
namespace Go.Proofs.YtmfjpdlegaimlaaGreatDoor
open Go.RowKit
set_option linter.unusedVariables false
set_option linter.unusedSimpArgs false
variable {bs : Inhabited Base}

/-- a block that was there, or has been made since -/
def Known (β0 : Bij) (n0 : Nat) (b : Nat) : Prop := (∃ k, β0 b = some k) ∨ n0 ≤ b
structure Facts (L : List Oper) (R0 : Regs) (β0 : Bij) (Rs : Nat → Regs) (Hs : Nat → Hp) (V : Nat → Value) (H1 : Nat → Hp) (ex : Nat → Prop) : Prop where
  wf : ∀ j, j ≤ L.length → WF (Hs j)
  ban : ∀ j, j ≤ L.length → (Hs j).ban = (Hs 0).ban
  old : ∀ j, j ≤ L.length → (Hs j).old = (Hs 0).old
  regs : ∀ j, j ≤ L.length → ∀ t, VB (Hs j).next (getR (Rs j) t)
  row : ∀ j, j ≤ L.length → ∀ b q, (Hs j).tr.get b = some q → Known β0 (Hs 0).next b → (Hs j).since q ≤ b → memN (Hs 0).ban q.grp = false → ∀ x, x ∈ q.cells → VB (Hs j).next x
  next : ∀ j, j < L.length → (Hs j).next ≤ (Hs (j + 1)).next
  same : ∀ j, j < L.length → ∀ b q, (Hs j).tr.get b = some q → ∃ q', (Hs (j + 1)).tr.get b = some q' ∧ q'.size = q.size ∧ q'.grp = q.grp
  keep : ∀ j, j < L.length → ∀ b q, (Hs j).tr.get b = some q → (ex j → q.grp ∉ (H1 j).wrote) → (Hs (j + 1)).tr.get b = some q ∧ (Hs (j + 1)).since q = (Hs j).since q
  wr : ∀ j, j < L.length → ex j → ∀ g, g ∈ (H1 j).wrote → g < (Hs j).next ∧ memN (banAt L R0 (Hs j) j) g = false
  vb : ∀ j, j < L.length → VB (Hs (j + 1)).next (V j)
  wrote : ∀ j, j < L.length → ex j → ∀ g, g ∈ (H1 j).wrote → g < (Hs 0).old → g ∈ (Hs (j + 1)).wrote
  more : ∀ j, j < L.length → ∀ g, g ∈ (Hs j).wrote → g ∈ (Hs (j + 1)).wrote
  came : ∀ j, j < L.length → ∀ g, g ∈ (Hs (j + 1)).wrote → g ∈ (Hs j).wrote ∨ (ex j ∧ g ∈ (H1 j).wrote ∧ g < (Hs 0).old)

section
variable {P : Program} {call : FuncId → List Value → Hp → Ret} {L : List Oper} {R0 : Regs} {N : Nat} {β0 : Bij} {a0 : Act} {w0 : World}
variable {Rs : Nat → Regs} {Hs : Nat → Hp} {V : Nat → Value} {H1 : Nat → Hp} {ex : Nat → Prop} {rd : Nat → Rdd}

theorem facts (hc : CallOk P call) (T : Trace P call L R0 Rs Hs V H1 ex rd) (hok : opsOk N L = true) (hs : S N β0 (Rs 0) (Hs 0) a0 w0) : Facts L R0 β0 Rs Hs V H1 ex := by
  have hdst : ∀ (l : List Oper), opsOk N l = true → ∀ (j : Nat) (o : Oper), l[j]? = some o → dstOk N o.dst = true := by
    intro l
    induction l with
    | nil => intro _ j o h; simp at h
    | cons x l ih =>
      intro h j o ho
      have h' : cond (dstOk N x.dst) (opsOk N l) false = true := h
      cases hx : dstOk N x.dst with
      | false => rw [hx] at h'; cases h'
      | true =>
        rw [hx] at h'
        cases j with
        | zero => simp at ho; subst ho; exact hx
        | succ j => exact ih h' j o (by simpa using ho)
  have step : ∀ j, j < L.length → ∀ β a w, S N β (Rs j) (Hs j) a w → ∃ β1 a1 w1, S N β1 (Rs (j + 1)) (Hs (j + 1)) a1 w1 ∧ (∀ b k, β b = some k → β1 b = some k) ∧ (∀ b, (Hs j).next ≤ b → b < (Hs (j + 1)).next → ∃ k, β1 b = some k) ∧
      (Hs j).next ≤ (Hs (j + 1)).next ∧ (Hs (j + 1)).ban = (Hs j).ban ∧ (Hs (j + 1)).old = (Hs j).old ∧
      (∀ b q, (Hs j).tr.get b = some q → ∃ q', (Hs (j + 1)).tr.get b = some q' ∧ q'.size = q.size ∧ q'.grp = q.grp) ∧
      (∀ b q, (Hs j).tr.get b = some q → (ex j → q.grp ∉ (H1 j).wrote) → (Hs (j + 1)).tr.get b = some q ∧ (Hs (j + 1)).since q = (Hs j).since q) ∧
      (ex j → ∀ g, g ∈ (H1 j).wrote → g < (Hs j).next ∧ memN (banAt L R0 (Hs j) j) g = false) ∧ VB (Hs (j + 1)).next (V j) ∧
      (ex j → ∀ g, g ∈ (H1 j).wrote → g < (Hs j).old → g ∈ (Hs (j + 1)).wrote) ∧ (∀ g, g ∈ (Hs j).wrote → g ∈ (Hs (j + 1)).wrote) ∧ (∀ g, g ∈ (Hs (j + 1)).wrote → g ∈ (Hs j).wrote ∨ (ex j ∧ g ∈ (H1 j).wrote ∧ g < (Hs j).old)) := by
    intro j hj β a w hs
    have ho := List.getElem?_eq_getElem hj
    generalize L[j] = o at ho
    have hd := hdst L hok j o ho
    by_cases hex : ex j
    · obtain ⟨_, _, hran, hR, hH⟩ := T.exec j o ho hex
      have hw1 := enter_WF hs.wf (banAt L R0 (Hs j) j)
      have hr1 : HR (Ab (enterD (banAt L R0 (Hs j) j) (Hs j)).ban) β (enterD (banAt L R0 (Hs j) j) (Hs j)) w := enter_HR hs.hr _ (fun g hg => ban_sub (L := L) (R0 := R0) (j := j) hg)
      obtain ⟨β1, v', w1, h1, h2, h3, h4⟩ := ran_some hc hw1 hr1 hs.rr o hran
      obtain ⟨h5, h6⟩ := leave_ok (L := L) (R0 := R0) (j := j) hs.wf hs.hr h1 h3 h4
      have h7 := leave_WF hs.wf h4 h1.next
      rw [hR, hH]
      refine ⟨β1, a.put o.dst v', w1, hs.put h6 h7 h5 h2 o.dst hd, h6.ext, h6.full, h6.next, rfl, rfl, h6.same, ?_, ?_, ?_, ?_, h6.wrote, ?_⟩
      · intro b q hq hnw
        have hg : q.grp < (Hs j).next := by
          have e1 := hs.wf.grp b q hq
          have e2 := hs.wf.pos hq
          omega
        exact h1.keep b q hq hg (hnw hex)
      · intro _ g hg
        rcases h1.wdom g hg with h | ⟨h8, h9, _⟩
        · cases h
        · exact ⟨h8, h9⟩
      · exact ⟨β1, v', fun b k hb => (h3.dom b k hb).1, h2⟩
      · intro _ g hg hlt
        exact (mem_joinW _ _ _ _).2 (.inr ⟨hg, hlt⟩)
      · intro g hg
        rcases (mem_joinW _ _ _ _).1 hg with h | ⟨h, h'⟩
        · exact .inl h
        · exact .inr ⟨hex, h, h'⟩
    · obtain ⟨_, hV, hR, hH⟩ := T.skip j o ho hex
      rw [hR, hH, hV]
      refine ⟨β, a.put o.dst undef, w, hs.put (St.refl _ _ _) hs.wf hs.hr (VR.undef β) o.dst hd, fun b k h => h, fun b h1 h2 => absurd h2 (by omega), Nat.le_refl _, rfl, rfl, fun b q h => ⟨q, h, rfl, rfl⟩, fun b q h _ => ⟨h, rfl⟩, fun h => absurd h hex, ?_, fun h => absurd h hex, fun g h => h, fun g h => .inl h⟩
      exact ⟨β, undef, fun b k hb => (hs.hr.dom b k hb).1, VR.undef β⟩
  have run : ∀ j, j ≤ L.length → ∃ β a w, S N β (Rs j) (Hs j) a w ∧ (Hs j).ban = (Hs 0).ban ∧ (Hs j).old = (Hs 0).old ∧ (Hs 0).next ≤ (Hs j).next ∧ ∀ b, Known β0 (Hs 0).next b → b < (Hs j).next → ∃ k, β b = some k := by
    intro j
    induction j with
    | zero =>
      intro _
      refine ⟨β0, a0, w0, hs, rfl, rfl, Nat.le_refl _, fun b hb hlt => ?_⟩
      rcases hb with hb | hb
      · exact hb
      · omega
    | succ j ih =>
      intro hj
      obtain ⟨β, a, w, h1, h2, h3, h3', h4⟩ := ih (by omega)
      obtain ⟨β1, a1, w1, h5, h6, h7, h8, h9, h10, _⟩ := step j (by omega) β a w h1
      refine ⟨β1, a1, w1, h5, h9.trans h2, h10.trans h3, Nat.le_trans h3' h8, fun b hb hlt => ?_⟩
      rcases Nat.lt_or_ge b (Hs j).next with h | h
      · obtain ⟨k, hk⟩ := h4 b hb h
        exact ⟨k, h6 b k hk⟩
      · exact h7 b h hlt
  have pick : ∀ j, j < L.length → ∃ β a w, S N β (Rs j) (Hs j) a w := fun j hj => let ⟨β, a, w, h, _⟩ := run j (by omega); ⟨β, a, w, h⟩
  refine ⟨fun j hj => ?_, fun j hj => ?_, fun j hj => ?_, fun j hj t => ?_, fun j hj b q hq hk hl hb x hx => ?_, fun j hj => ?_, fun j hj => ?_, fun j hj => ?_, fun j hj => ?_, fun j hj => ?_, fun j hj hx g hg hlt => ?_, fun j hj => ?_, fun j hj g hg => ?_⟩
  · obtain ⟨β, a, w, h, _⟩ := run j hj; exact h.wf
  · obtain ⟨β, a, w, _, h, _⟩ := run j hj; exact h
  · obtain ⟨β, a, w, _, _, h, _⟩ := run j hj; exact h
  · obtain ⟨β, a, w, h, _⟩ := run j hj; exact ⟨β, _, fun b k hb => (h.hr.dom b k hb).1, h.rr t⟩
  · obtain ⟨β, a, w, h, h1, _, _, h2⟩ := run j hj
    obtain ⟨k, hbk⟩ := h2 b hk (h.wf.pos hq).2
    obtain ⟨cs, _, _, h3⟩ := h.hr.row b k q hbk hq hl (by show memN (Hs j).ban q.grp = false; rw [h1]; exact hb)
    obtain ⟨i, hi⟩ := List.getElem?_of_mem hx
    obtain ⟨y, _, hv⟩ := h3 i x hi
    exact ⟨β, y, fun b k hb => (h.hr.dom b k hb).1, hv⟩
  · obtain ⟨β, a, w, h⟩ := pick j hj; obtain ⟨_, _, _, _, _, _, h1, _⟩ := step j hj β a w h; exact h1
  · obtain ⟨β, a, w, h⟩ := pick j hj; obtain ⟨_, _, _, _, _, _, _, _, _, h1, _⟩ := step j hj β a w h; exact h1
  · obtain ⟨β, a, w, h⟩ := pick j hj; obtain ⟨_, _, _, _, _, _, _, _, _, _, h1, _⟩ := step j hj β a w h; exact h1
  · obtain ⟨β, a, w, h⟩ := pick j hj; obtain ⟨_, _, _, _, _, _, _, _, _, _, _, h1, _⟩ := step j hj β a w h; exact h1
  · obtain ⟨β, a, w, h⟩ := pick j hj; obtain ⟨_, _, _, _, _, _, _, _, _, _, _, _, h1, _⟩ := step j hj β a w h; exact h1
  · obtain ⟨β, a, w, h⟩ := pick j hj
    obtain ⟨_, _, _, _, _, _, _, _, _, _, _, _, _, h1, _⟩ := step j hj β a w h
    obtain ⟨_, _, _, _, _, h2, _⟩ := run j (by omega)
    exact h1 hx g hg (by rw [h2]; exact hlt)
  · obtain ⟨β, a, w, h⟩ := pick j hj; obtain ⟨_, _, _, _, _, _, _, _, _, _, _, _, _, _, h1, _⟩ := step j hj β a w h; exact h1
  · obtain ⟨β, a, w, h⟩ := pick j hj
    obtain ⟨_, _, _, _, _, _, _, _, _, _, _, _, _, _, _, h1⟩ := step j hj β a w h
    obtain ⟨_, _, _, _, _, h2, _⟩ := run j (by omega)
    rw [← h2]; exact h1 g hg
end
end Go.Proofs.YtmfjpdlegaimlaaGreatDoor
