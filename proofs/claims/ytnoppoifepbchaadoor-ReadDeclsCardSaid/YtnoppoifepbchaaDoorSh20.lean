/- A region that draws its order: what holds in text order. Of no program. -/
import Derived.Test.YtnoppoifepbchaaDoorSh18
namespace Go.Proofs.YtnoppoifepbchaaDoor.Sh
section
open Go.RowKit
set_option linter.unusedVariables false
set_option linter.unusedSimpArgs false
variable {bs : Inhabited Base}

/-- a block that was there, or has been made since -/
def Known (β0 : Bij) (n0 : Nat) (b : Nat) : Prop := (∃ k, β0 b = some k) ∨ n0 ≤ b
structure Facts (L : List Oper) (R0 : Regs) (β0 : Bij) (Rs : Nat → Regs) (Hs : Nat → Hp) (V : Nat → Value) (H1 : Nat → Hp) (ex : Nat → Prop) : Prop where
 wf : ∀ j, j ≤ L.length → WF (Hs j)
 ban : ∀ j, j ≤ L.length → (Hs j).ban = (Hs 0).ban
 old : ∀ j, j ≤ L.length → (Hs j).old = (Hs 0).old
 regs : ∀ j, j ≤ L.length → ∀ t, VB (Hs j).next (getR (Rs j) t)
 row : ∀ j, j ≤ L.length → ∀ b q, (Hs j).tr.get b = some q → Known β0 (Hs 0).next b → (Hs j).since q ≤ b → memN (Hs 0).ban q.grp = false → ∀ x, x ∈ q.cells → VB (Hs j).next x
 next : ∀ j, j < L.length → (Hs j).next ≤ (Hs (j + 1)).next
 same : ∀ j, j < L.length → ∀ b q, (Hs j).tr.get b = some q → ∃ q', (Hs (j + 1)).tr.get b = some q' ∧ q'.size = q.size ∧ q'.grp = q.grp
 keep : ∀ j, j < L.length → ∀ b q, (Hs j).tr.get b = some q → (ex j → q.grp ∉ (H1 j).wrote) → (Hs (j + 1)).tr.get b = some q ∧ (Hs (j + 1)).since q = (Hs j).since q
 wr : ∀ j, j < L.length → ex j → ∀ g, g ∈ (H1 j).wrote → g < (Hs j).next ∧ memN (banAt L R0 (Hs j) j) g = false
 vb : ∀ j, j < L.length → VB (Hs (j + 1)).next (V j)
 wrote : ∀ j, j < L.length → ex j → ∀ g, g ∈ (H1 j).wrote → g < (Hs 0).old → g ∈ (Hs (j + 1)).wrote
 more : ∀ j, j < L.length → ∀ g, g ∈ (Hs j).wrote → g ∈ (Hs (j + 1)).wrote
 came : ∀ j, j < L.length → ∀ g, g ∈ (Hs (j + 1)).wrote → g ∈ (Hs j).wrote ∨ (ex j ∧ g ∈ (H1 j).wrote ∧ g < (Hs 0).old)

section
variable {P : Program} {call : FuncId → List Value → Hp → Ret} {L : List Oper} {R0 : Regs} {N : Nat} {β0 : Bij} {a0 : Act} {w0 : World}
variable {Rs : Nat → Regs} {Hs : Nat → Hp} {V : Nat → Value} {H1 : Nat → Hp} {ex : Nat → Prop} {rd : Nat → Rdd}

theorem facts (hc : CallOk P call) (T : Trace P call L R0 Rs Hs V H1 ex rd) (hok : opsOk N L = true) (hs : S N β0 (Rs 0) (Hs 0) a0 w0) : Facts L R0 β0 Rs Hs V H1 ex := by
 have hdst : ∀ (l : List Oper), opsOk N l = true → ∀ (j : Nat) (o : Oper), l[j]? = some o → dstOk N o.dst = true := by
  intro l
  induction l with
  | nil => intro _ j o h; simp at h
  | cons x l ih =>
    intro h j o ho
    have h' : cond (dstOk N x.dst) (opsOk N l) false = true := h
    cases hx : dstOk N x.dst with
    | false => rw [hx] at h'; cases h'
    | true =>
      rw [hx] at h'
      cases j with
      | zero => simp at ho; subst ho; exact hx
      | succ j => exact ih h' j o (by simpa using ho)
 have step : ∀ j, j < L.length → ∀ β a w, S N β (Rs j) (Hs j) a w → ∃ β1 a1 w1, S N β1 (Rs (j + 1)) (Hs (j + 1)) a1 w1 ∧ (∀ b k, β b = some k → β1 b = some k) ∧ (∀ b, (Hs j).next ≤ b → b < (Hs (j + 1)).next → ∃ k, β1 b = some k) ∧
   (Hs j).next ≤ (Hs (j + 1)).next ∧ (Hs (j + 1)).ban = (Hs j).ban ∧ (Hs (j + 1)).old = (Hs j).old ∧
   (∀ b q, (Hs j).tr.get b = some q → ∃ q', (Hs (j + 1)).tr.get b = some q' ∧ q'.size = q.size ∧ q'.grp = q.grp) ∧
   (∀ b q, (Hs j).tr.get b = some q → (ex j → q.grp ∉ (H1 j).wrote) → (Hs (j + 1)).tr.get b = some q ∧ (Hs (j + 1)).since q = (Hs j).since q) ∧
   (ex j → ∀ g, g ∈ (H1 j).wrote → g < (Hs j).next ∧ memN (banAt L R0 (Hs j) j) g = false) ∧ VB (Hs (j + 1)).next (V j) ∧
   (ex j → ∀ g, g ∈ (H1 j).wrote → g < (Hs j).old → g ∈ (Hs (j + 1)).wrote) ∧ (∀ g, g ∈ (Hs j).wrote → g ∈ (Hs (j + 1)).wrote) ∧ (∀ g, g ∈ (Hs (j + 1)).wrote → g ∈ (Hs j).wrote ∨ (ex j ∧ g ∈ (H1 j).wrote ∧ g < (Hs j).old)) := by
  intro j hj β a w hs
  have ho := List.getElem?_eq_getElem hj
  generalize L[j] = o at ho
  have hd := hdst L hok j o ho
  by_cases hex : ex j
  · obtain ⟨_, _, hran, hR, hH⟩ := T.exec j o ho hex
    have hw1 := enter_WF hs.wf (banAt L R0 (Hs j) j)
    have hr1 : HR (Ab (enterD (banAt L R0 (Hs j) j) (Hs j)).ban) β (enterD (banAt L R0 (Hs j) j) (Hs j)) w := enter_HR hs.hr _ (fun g hg => ban_sub (L := L) (R0 := R0) (j := j) hg)
    obtain ⟨β1, v', w1, h1, h2, h3, h4⟩ := ran_some hc hw1 hr1 hs.rr o hran
    obtain ⟨h5, h6⟩ := leave_ok (L := L) (R0 := R0) (j := j) hs.wf hs.hr h1 h3 h4
    have h7 := leave_WF hs.wf h4 h1.next
    rw [hR, hH]
    refine ⟨β1, a.put o.dst v', w1, hs.put h6 h7 h5 h2 o.dst hd, h6.ext, h6.full, h6.next, rfl, rfl, h6.same, ?_, ?_, ?_, ?_, h6.wrote, ?_⟩
    · intro b q hq hnw
      have hg : q.grp < (Hs j).next := by
       have e1 := hs.wf.grp b q hq
       have e2 := hs.wf.pos hq
       omega
      exact h1.keep b q hq hg (hnw hex)
    · intro _ g hg
      rcases h1.wdom g hg with h | ⟨h8, h9, _⟩
      · cases h
      · exact ⟨h8, h9⟩
    · exact ⟨β1, v', fun b k hb => (h3.dom b k hb).1, h2⟩
    · intro _ g hg hlt
      exact (mem_joinW _ _ _ _).2 (.inr ⟨hg, hlt⟩)
    · intro g hg
      rcases (mem_joinW _ _ _ _).1 hg with h | ⟨h, h'⟩
      · exact .inl h
      · exact .inr ⟨hex, h, h'⟩
  · obtain ⟨_, hV, hR, hH⟩ := T.skip j o ho hex
    rw [hR, hH, hV]
    refine ⟨β, a.put o.dst undef, w, hs.put (St.refl _ _ _) hs.wf hs.hr (VR.undef β) o.dst hd, fun b k h => h, fun b h1 h2 => absurd h2 (by omega), Nat.le_refl _, rfl, rfl, fun b q h => ⟨q, h, rfl, rfl⟩, fun b q h _ => ⟨h, rfl⟩, fun h => absurd h hex, ?_, fun h => absurd h hex, fun g h => h, fun g h => .inl h⟩
    exact ⟨β, undef, fun b k hb => (hs.hr.dom b k hb).1, VR.undef β⟩
 have run : ∀ j, j ≤ L.length → ∃ β a w, S N β (Rs j) (Hs j) a w ∧ (Hs j).ban = (Hs 0).ban ∧ (Hs j).old = (Hs 0).old ∧ (Hs 0).next ≤ (Hs j).next ∧ ∀ b, Known β0 (Hs 0).next b → b < (Hs j).next → ∃ k, β b = some k := by
  intro j
  induction j with
  | zero =>
    intro _
    refine ⟨β0, a0, w0, hs, rfl, rfl, Nat.le_refl _, fun b hb hlt => ?_⟩
    rcases hb with hb | hb
    · exact hb
    · omega
  | succ j ih =>
    intro hj
    obtain ⟨β, a, w, h1, h2, h3, h3', h4⟩ := ih (by omega)
    obtain ⟨β1, a1, w1, h5, h6, h7, h8, h9, h10, _⟩ := step j (by omega) β a w h1
    refine ⟨β1, a1, w1, h5, h9.trans h2, h10.trans h3, Nat.le_trans h3' h8, fun b hb hlt => ?_⟩
    rcases Nat.lt_or_ge b (Hs j).next with h | h
    · obtain ⟨k, hk⟩ := h4 b hb h
      exact ⟨k, h6 b k hk⟩
    · exact h7 b h hlt
 have pick : ∀ j, j < L.length → ∃ β a w, S N β (Rs j) (Hs j) a w := fun j hj => let ⟨β, a, w, h, _⟩ := run j (by omega); ⟨β, a, w, h⟩
 refine ⟨fun j hj => ?_, fun j hj => ?_, fun j hj => ?_, fun j hj t => ?_, fun j hj b q hq hk hl hb x hx => ?_, fun j hj => ?_, fun j hj => ?_, fun j hj => ?_, fun j hj => ?_, fun j hj => ?_, fun j hj hx g hg hlt => ?_, fun j hj => ?_, fun j hj g hg => ?_⟩
 · obtain ⟨β, a, w, h, _⟩ := run j hj; exact h.wf
 · obtain ⟨β, a, w, _, h, _⟩ := run j hj; exact h
 · obtain ⟨β, a, w, _, _, h, _⟩ := run j hj; exact h
 · obtain ⟨β, a, w, h, _⟩ := run j hj; exact ⟨β, _, fun b k hb => (h.hr.dom b k hb).1, h.rr t⟩
 · obtain ⟨β, a, w, h, h1, _, _, h2⟩ := run j hj
   obtain ⟨k, hbk⟩ := h2 b hk (h.wf.pos hq).2
   obtain ⟨cs, _, _, h3⟩ := h.hr.row b k q hbk hq hl (by show memN (Hs j).ban q.grp = false; rw [h1]; exact hb)
   obtain ⟨i, hi⟩ := List.getElem?_of_mem hx
   obtain ⟨y, _, hv⟩ := h3 i x hi
   exact ⟨β, y, fun b k hb => (h.hr.dom b k hb).1, hv⟩
 · obtain ⟨β, a, w, h⟩ := pick j hj; obtain ⟨_, _, _, _, _, _, h1, _⟩ := step j hj β a w h; exact h1
 · obtain ⟨β, a, w, h⟩ := pick j hj; obtain ⟨_, _, _, _, _, _, _, _, _, h1, _⟩ := step j hj β a w h; exact h1
 · obtain ⟨β, a, w, h⟩ := pick j hj; obtain ⟨_, _, _, _, _, _, _, _, _, _, h1, _⟩ := step j hj β a w h; exact h1
 · obtain ⟨β, a, w, h⟩ := pick j hj; obtain ⟨_, _, _, _, _, _, _, _, _, _, _, h1, _⟩ := step j hj β a w h; exact h1
 · obtain ⟨β, a, w, h⟩ := pick j hj; obtain ⟨_, _, _, _, _, _, _, _, _, _, _, _, h1, _⟩ := step j hj β a w h; exact h1
 · obtain ⟨β, a, w, h⟩ := pick j hj
   obtain ⟨_, _, _, _, _, _, _, _, _, _, _, _, _, h1, _⟩ := step j hj β a w h
   obtain ⟨_, _, _, _, _, h2, _⟩ := run j (by omega)
   exact h1 hx g hg (by rw [h2]; exact hlt)
 · obtain ⟨β, a, w, h⟩ := pick j hj; obtain ⟨_, _, _, _, _, _, _, _, _, _, _, _, _, _, h1, _⟩ := step j hj β a w h; exact h1
 · obtain ⟨β, a, w, h⟩ := pick j hj
   obtain ⟨_, _, _, _, _, _, _, _, _, _, _, _, _, _, _, h1⟩ := step j hj β a w h
   obtain ⟨_, _, _, _, _, h2, _⟩ := run j (by omega)
   rw [← h2]; exact h1 g hg
end
end
section
open Go.RowKit
set_option linter.unusedVariables false
set_option linter.unusedSimpArgs false
variable {bs : Inhabited Base}

section
variable {L : List Oper} {R0 : Regs} {β0 : Bij} {Rs : Nat → Regs} {Hs : Nat → Hp} {V : Nat → Value} {H1 : Nat → Hp} {ex : Nat → Prop} {rd : Nat → Rdd}

theorem Facts.next_mono (F : Facts L R0 β0 Rs Hs V H1 ex) {i j : Nat} (hij : i ≤ j) (hj : j ≤ L.length) : (Hs i).next ≤ (Hs j).next := by
 induction j with
 | zero =>
   obtain rfl : i = 0 := (by omega)
   exact Nat.le_refl _
 | succ j ih =>
   rcases Nat.lt_or_ge j i with h | h
   · obtain rfl : i = j + 1 := (by omega)
     exact Nat.le_refl _
   · exact Nat.le_trans (ih h (by omega)) (F.next j (by omega))
theorem Facts.same_mono (F : Facts L R0 β0 Rs Hs V H1 ex) {i j b : Nat} {q : Blk} (hij : i ≤ j) (hj : j ≤ L.length) (hq : (Hs i).tr.get b = some q) : ∃ q', (Hs j).tr.get b = some q' ∧ q'.size = q.size ∧ q'.grp = q.grp := by
 induction j with
 | zero =>
   obtain rfl : i = 0 := (by omega)
   exact ⟨q, hq, rfl, rfl⟩
 | succ j ih =>
   rcases Nat.lt_or_ge j i with h | h
   · obtain rfl : i = j + 1 := (by omega)
     exact ⟨q, hq, rfl, rfl⟩
   · obtain ⟨q1, h1, h2, h3⟩ := ih h (by omega)
     obtain ⟨q2, h4, h5, h6⟩ := F.same j (by omega) b q1 h1
     exact ⟨q2, h4, h5.trans h2, h6.trans h3⟩
theorem Facts.keep_mono (F : Facts L R0 β0 Rs Hs V H1 ex) {i j b : Nat} {q : Blk} (hij : i ≤ j) (hj : j ≤ L.length) (hq : (Hs i).tr.get b = some q) (hn : ∀ k, i ≤ k → k < j → ex k → q.grp ∉ (H1 k).wrote) : (Hs j).tr.get b = some q ∧ (Hs j).since q = (Hs i).since q := by
 induction j with
 | zero =>
   obtain rfl : i = 0 := (by omega)
   exact ⟨hq, rfl⟩
 | succ j ih =>
   rcases Nat.lt_or_ge j i with h | h
   · obtain rfl : i = j + 1 := (by omega)
     exact ⟨hq, rfl⟩
   · obtain ⟨h1, h2⟩ := ih h (by omega) (fun k h1 h2 => hn k h1 (by omega))
     obtain ⟨h3, h4⟩ := F.keep j (by omega) b q h1 (hn j h (by omega))
     exact ⟨h3, h4.trans h2⟩
theorem Facts.alike (F : Facts L R0 β0 Rs Hs V H1 ex) {i j b : Nat} {q q' : Blk} (hi : i ≤ L.length) (hj : j ≤ L.length) (hq : (Hs i).tr.get b = some q) (hq' : (Hs j).tr.get b = some q') : q.grp = q'.grp ∧ q.size = q'.size := by
 obtain ⟨q1, h1, h2, h3⟩ := F.same_mono hi (Nat.le_refl _) hq
 obtain ⟨q2, h4, h5, h6⟩ := F.same_mono hj (Nat.le_refl _) hq'
 rw [h1] at h4; cases h4
 exact ⟨h3.symm.trans h6, h2.symm.trans h5⟩
theorem Facts.rec_of (F : Facts L R0 β0 Rs Hs V H1 ex) {j b : Nat} {q : Blk} (hj : j ≤ L.length) (hb : b < (Hs j).next) (hq : (Hs L.length).tr.get b = some q) : ∃ q', (Hs j).tr.get b = some q' ∧ q'.grp = q.grp ∧ q'.size = q.size := by
 have h1 := (F.wf _ (Nat.le_refl _)).pos hq
 obtain ⟨q', h2⟩ := (F.wf j hj).all b h1.1 hb
 have := F.alike hj (Nat.le_refl _) h2 hq
 exact ⟨q', h2, this.1, this.2⟩
theorem Facts.wrote_mono (F : Facts L R0 β0 Rs Hs V H1 ex) {i j g : Nat} (hij : i ≤ j) (hj : j ≤ L.length) (hg : g ∈ (Hs i).wrote) : g ∈ (Hs j).wrote := by
 induction j with
 | zero =>
   obtain rfl : i = 0 := (by omega)
   exact hg
 | succ j ih =>
   rcases Nat.lt_or_ge j i with h | h
   · obtain rfl : i = j + 1 := (by omega)
     exact hg
   · exact F.more j (by omega) g (ih h (by omega))
theorem Facts.came_from (F : Facts L R0 β0 Rs Hs V H1 ex) {j g : Nat} (hj : j ≤ L.length) (hg : g ∈ (Hs j).wrote) : g ∈ (Hs 0).wrote ∨ ∃ i, i < j ∧ ex i ∧ g ∈ (H1 i).wrote ∧ g < (Hs 0).old := by
 induction j with
 | zero => exact .inl hg
 | succ j ih =>
   rcases F.came j (by omega) g hg with h | ⟨h1, h2, h3⟩
   · rcases ih (by omega) h with h | ⟨i, h1, h2⟩
     · exact .inl h
     · exact .inr ⟨i, by omega, h2⟩
   · exact .inr ⟨j, by omega, h1, h2, h3⟩
end

/-- made there -/
def New (Hs : Nat → Hp) (d b : Nat) : Prop := (Hs d).next ≤ b ∧ b < (Hs (d + 1)).next
def Touch (Hs H1 : Nat → Hp) (ex : Nat → Prop) (i g : Nat) : Prop := ex i ∧ (g ∈ (H1 i).wrote ∨ New Hs i g)
/-- how far a group is -/
def Stage (n : Nat) (Hs H1 : Nat → Hp) (ex D : Nat → Prop) (g s : Nat) : Prop := ∀ i, i < n → Touch Hs H1 ex i g → (D i ↔ i < s)
def Rooted (Hs : Nat → Hp) (ex D : Nat → Prop) (g : Nat) : Prop := g < (Hs 0).next ∨ ∃ d, D d ∧ ex d ∧ New Hs d g
def Born (Hs H1 : Nat → Hp) (ex D : Nat → Prop) (b g : Nat) : Prop := b < (Hs 0).next ∨ ∃ d, D d ∧ ex d ∧ New Hs d b ∧ (g ∈ (H1 d).wrote ∨ (Hs d).next ≤ g)
theorem New.unique {L : List Oper} {R0 : Regs} {β0 : Bij} {Rs : Nat → Regs} {Hs : Nat → Hp} {V : Nat → Value} {H1 : Nat → Hp} {ex : Nat → Prop} (F : Facts L R0 β0 Rs Hs V H1 ex) {d d' b : Nat} (h : New Hs d b) (h' : New Hs d' b) (hd : d < L.length) (hd' : d' < L.length) : d = d' := by
 rcases Nat.lt_trichotomy d d' with e | e | e
 · have := F.next_mono (i := d + 1) (j := d') (by omega) (by omega)
   have h1 := h.2; have h2 := h'.1; omega
 · exact e
 · have := F.next_mono (i := d' + 1) (j := d) (by omega) (by omega)
   have h1 := h'.2; have h2 := h.1; omega
theorem New.old {L : List Oper} {R0 : Regs} {β0 : Bij} {Rs : Nat → Regs} {Hs : Nat → Hp} {V : Nat → Value} {H1 : Nat → Hp} {ex : Nat → Prop} (F : Facts L R0 β0 Rs Hs V H1 ex) {d b : Nat} (h : New Hs d b) (hd : d < L.length) : (Hs 0).next ≤ b :=
 Nat.le_trans (F.next_mono (Nat.zero_le d) (by omega)) h.1

/-- whatever has been done -/
structure Inv [Inhabited Base] (L : List Oper) (R0 : Regs) (N : Nat) (β0 : Bij) (w0 : World) (Hs : Nat → Hp) (V : Nat → Value) (H1 : Nat → Hp) (ex D : Nat → Prop) (β : Bij) (a : Act) (w : World) : Prop where
 cl : Closed L D
 lt : ∀ j, D j → j < L.length
 blk : ∀ b k, β b = some k → k.blk < w.heap.size
 rec_ : ∀ b k, β b = some k → ∃ q, (Hs L.length).tr.get b = some q ∧ q.size = k.size ∧ Born Hs H1 ex D b q.grp ∧ Rooted Hs ex D q.grp
 root : ∀ i, D i → ex i → ∀ g, g ∈ (H1 i).wrote → Rooted Hs ex D g
 share : ∀ b b' k k' q q', β b = some k → β b' = some k' → (Hs L.length).tr.get b = some q → (Hs L.length).tr.get b' = some q' → k.blk = k'.blk → q.grp = q'.grp
 row : ∀ b k s q, β b = some k → s ≤ L.length → (Hs s).tr.get b = some q → Stage L.length Hs H1 ex D q.grp s → (Hs s).since q ≤ b → memN (Hs 0).ban q.grp = false → RowV β q k w
 reg0 : ∀ t, (∀ (j : Nat) (o : Oper), D j → L[j]? = some o → o.dst ≠ some t) → VR β (getR R0 t) (a.tmps.getD t undef)
 reg1 : ∀ t (j : Nat) (o : Oper), D j → L[j]? = some o → o.dst = some t → (∀ (i : Nat) (o' : Oper), D i → L[i]? = some o' → o'.dst = some t → i ≤ j) → VR β (V j) (a.tmps.getD t undef)
 size : N ≤ a.tmps.size
 top : a.tmps.size ≤ 1000
 defers : a.defers = []
 os : w.os = w0.os
 tape : w.tape = w0.tape
 output : w.output = w0.output
 wsz : w0.heap.size ≤ w.heap.size
 ext : Ext β0 β
 block : ∀ r, r < w0.heap.size → (∀ b k q, β0 b = some k → (Hs 0).tr.get b = some q → k.blk = r → q.grp < (Hs 0).old ∧ q.grp ∉ (Hs L.length).wrote) → w.heap[r]? = w0.heap[r]?
 new : ∀ b k, β b = some k → β0 b = some k ∨ ((Hs 0).next ≤ b ∧ ∃ q', (Hs L.length).tr.get b = some q' ∧ (((Hs 0).next ≤ q'.grp ∧ w0.heap.size ≤ k.blk) ∨ ∃ b0 k0 q0, β0 b0 = some k0 ∧ (Hs 0).tr.get b0 = some q0 ∧ q0.grp = q'.grp ∧ ¬ (q0.grp < (Hs 0).old ∧ q0.grp ∉ (Hs L.length).wrote) ∧ (w0.heap.size ≤ k.blk ∨ k0.blk = k.blk)))
 wd : ∀ i, D i → ex i → ∀ g, g ∈ (H1 i).wrote → g < (Hs 0).old → memN (Hs 0).ban g = false ∧ ∃ b0 k0 q0, β0 b0 = some k0 ∧ (Hs 0).tr.get b0 = some q0 ∧ q0.grp = g
 full : ∀ d, D d → ∀ b, New Hs d b → ∃ k, β b = some k
 low : ∀ b k, baseAt b = some k → β b = some k ∧ b < (Hs 0).next
 fix : ∀ r o, baseRow r = some o → w.heap[r]? = some o
 apart : ∀ b k, β b = some k → baseRow k.blk = none

section
variable {P : Program} {call : FuncId → List Value → Hp → Ret} {L : List Oper} {R0 : Regs} {N : Nat} {β0 : Bij} {a0 : Act} {w0 : World}
variable {Rs : Nat → Regs} {Hs : Nat → Hp} {V : Nat → Value} {H1 : Nat → Hp} {ex : Nat → Prop} {rd : Nat → Rdd}
theorem noneIn_spec {r : Rdd} {g : Nat} : ∀ {l : List Nat}, noneIn l r = true → g ∈ l → r.has g = false
 | [], _, h => by cases h
 | x :: l, h, hg => by
   have h' : cond (r.has x) false (noneIn l r) = true := h
   cases hx : r.has x with
   | true => rw [hx] at h'; cases h'
   | false =>
     rw [hx] at h'
     rcases List.mem_cons.1 hg with rfl | hg
     · exact hx
     · exact noneIn_spec h' hg
/-- two that have to do with one group, one writing it, are ordered -/
theorem ordered (T : Trace P call L R0 Rs Hs V H1 ex rd) (hd : DrawOk L) {i j : Nat} (hi : i < L.length) (hj : j < L.length) (hij : i ≠ j) (hei : ex i) (hej : ex j) {g : Nat} (hg : g ∈ (H1 i).wrote) (hr : (rd j).has g = true) :
  (i < j ∧ bitS (maskS L j) i = true) ∨ (j < i ∧ bitS (maskS L i) j = true) := by
 have key : ∀ i j, i < j → j < L.length → ordB L i j = true → bitS (maskS L j) i = true := by
  intro i j h h2 ho
  rcases Bool.or_eq_true_iff.1 ho with h1 | h1
  · exact h1
  · have := mask_lt hd i _ (List.getElem?_eq_getElem (by omega)) j h1
    omega
 rcases Nat.lt_or_ge i j with h | h
 · left
   refine ⟨h, ?_⟩
   rcases T.apart i j h hj hei hej with h1 | ⟨h1, _⟩
   · exact key i j h hj h1
   · have := noneIn_spec h1 hg; rw [hr] at this; cases this
 · right
   refine ⟨by omega, ?_⟩
   rcases T.apart j i (by omega) hi hej hei with h1 | ⟨_, h1⟩
   · exact key j i (by omega) hi h1
   · have := noneIn_spec h1 hg; rw [hr] at this; cases this
end
end
section
open Go.RowKit
set_option linter.unusedVariables false
set_option linter.unusedSimpArgs false
variable {bs : Inhabited Base}

/-! ### what an operation writes, it looks at -/
section
variable {P : Program}
theorem roomS_inv {H : Hp} {e : TypeId} {n : Nx} {v : Value} {H' : Hp} (h : roomS H e n = .val v H') : n = .val v H' := by
 unfold roomS at h
 rcases cond_split h with ⟨_, h⟩ | ⟨_, h⟩
 · exact h
 · cases h
theorem newS_wrote {H : Hp} {cs : List Value} {e : TypeId} {n : Nat} {v : Value} {H' : Hp} (h : newS H cs e n = .val v H') : H'.wrote = H.wrote := by
 have h := roomS_inv h
 cases h; rfl
theorem newL_wrote {H : Hp} {cs : List Value} {e : TypeId} {n m : Nat} {v : Value} {H' : Hp} (h : newL H cs e n m = .val v H') : H'.wrote = H.wrote := by
 have h := roomS_inv h
 cases h; rfl
theorem nx_of_wrote {H H' : Hp} {n : Nat} {x : Option Value} {v : Value} (h : Nx.of n H x = .val v H') : H'.wrote = H.wrote := by
 cases x with
 | some u => cases h; rfl
 | none => cases h
theorem load_wrote {H H' : Hp} {t : TypeId} {x v : Value} (h : loadS P H t x = .val v H') : H'.wrote = H.wrote := by
 unfold loadS at h
 split at h
 · unfold loadB at h
   split at h
   · split at h
     · split at h <;> cases h; rfl
     · split at h <;> cases h; rfl
     · cases h
   · cases h
 · cases h
theorem wroteS_in {H : Hp} {i g : Nat} (h : g ∈ wroteS H i) : g = i ∨ g ∈ H.wrote := by
 unfold wroteS at h
 cases hc : (Nat.blt i H.old && !(memN H.wrote i)) with
 | true => rw [hc] at h; exact List.mem_cons.1 h
 | false => rw [hc] at h; exact .inr h
theorem store_wrote {H H' : Hp} {t : TypeId} {x v : Value} (h : storeS P H t v x = .skip H') : ∀ g, g ∈ H'.wrote → grpAt H (placeOf x) = some g ∨ g ∈ H.wrote := by
 unfold storeS at h
 split at h
 · rename_i b off
   unfold storeB at h
   split at h
   · rename_i k hk
     split at h
     · rcases cond_split h with ⟨_, h⟩ | ⟨_, h⟩
       · cases h
         intro g hg
         have hg : g ∈ wroteS H k.grp := hg
         rcases wroteS_in hg with rfl | hg
         · left
           show grpAt H (some b) = _
           unfold grpAt
           simp only [(read_inv hk).1]
         · exact .inr hg
       · cases h
     · cases h
   · cases h
 · cases h
theorem ran_wr {call : FuncId → List Value → Hp → Ret} {β : Bij} {R : Regs} {a : Act} (h : RR β R a.tmps) (o : Oper) {H : Hp} (h0 : H.wrote = []) {v : Value} {H' : Hp} (hran : Ran call (opS P R H o.type o.op) v H') (hb : ∀ g, g ∈ H'.wrote → memN H.ban g = false) : ∀ g, g ∈ H'.wrote → (rddOf H R H.ban o.op).has g = true := by
 intro g hg
 have but : rddOf H R H.ban o.op = .but H.ban → (rddOf H R H.ban o.op).has g = true := by
  intro e
  rw [e]
  show (!(memN H.ban g)) = true
  rw [hb g hg]; rfl
 have none : H'.wrote = H.wrote → (rddOf H R H.ban o.op).has g = true := by
  intro e
  rw [e, h0] at hg; cases hg
 by_cases hp : pureO o.op = true
 · have := pure_run (P := P) (H := H) h o hp
   rcases hran with e | ⟨e, _⟩ | ⟨f, args, H2, e, _⟩
   · rw [e] at this
     exact none (by rw [this.1])
   · rw [e] at this; exact this.elim
   · rw [e] at this; exact this.elim
 have hpf : pureO o.op = false := by simpa using hp
 have val : (∀ H2, opS P R H o.type o.op ≠ .skip H2) → (∀ f args H2, opS P R H o.type o.op ≠ .enter f args H2) → opS P R H o.type o.op = .val v H' := by
  intro h1 h2
  rcases hran with e | ⟨e, _⟩ | ⟨f, args, H2, e, _⟩
  · exact e
  · exact absurd e (h1 _)
  · exact absurd e (h2 _ _ _)
 cases ho : o.op with
 | store t x y =>
   rw [ho] at hran
   rcases hran with e | ⟨e, _⟩ | ⟨f, args, H2, e, _⟩
   · exfalso
     have e' : storeS P H t (evS R y) (evS R x) = .val v H' := e
     unfold storeS at e'
     split at e'
     · unfold storeB at e'
       split at e'
       · split at e'
         · rcases cond_split e' with ⟨_, h⟩ | ⟨_, h⟩ <;> cases h
         · cases e'
       · cases e'
     · cases e'
   · have e' : storeS P H t (evS R y) (evS R x) = .skip H' := e
     rcases store_wrote e' g hg with h1 | h1
     · show (oneOf (grpAt H (placeOf (evS R x)))).has g = true
       rw [h1]
       exact beq_t rfl
     · rw [h0] at h1; cases h1
   · exfalso
     have e' : storeS P H t (evS R y) (evS R x) = .enter f args H2 := e
     unfold storeS at e'
     split at e'
     · unfold storeB at e'
       split at e'
       · split at e'
         · rcases cond_split e' with ⟨_, h⟩ | ⟨_, h⟩ <;> cases h
         · cases e'
       · cases e'
     · cases e'
 | load t x =>
   refine ho ▸ none ?_
   rw [ho] at hran
   have key : ∀ n, loadS P H t (evS R x) = n → (∃ v, n = .val v H) ∨ ∃ k, n = .bad k := by
    intro n e
    unfold loadS at e
    split at e
    · unfold loadB at e
      split at e
      · split at e
        · split at e <;> subst e
          · exact .inl ⟨_, rfl⟩
          · exact .inr ⟨_, rfl⟩
        · split at e <;> subst e
          · exact .inl ⟨_, rfl⟩
          · exact .inr ⟨_, rfl⟩
        · subst e; exact .inr ⟨_, rfl⟩
      · subst e; exact .inr ⟨_, rfl⟩
    · subst e; exact .inr ⟨_, rfl⟩
   rcases hran with e | ⟨e, _⟩ | ⟨f, args, H2, e, _⟩
   · exact load_wrote (P := P) (x := evS R x) (t := t) e
   · rcases key _ e with ⟨_, h⟩ | ⟨_, h⟩ <;> cases h
   · rcases key _ e with ⟨_, h⟩ | ⟨_, h⟩ <;> cases h
 | alloc e =>
   refine ho ▸ none ?_
   rw [ho] at hran
   have key : ∀ n, allocS P H e = n → (∃ v H', n = .val v H' ∧ H'.wrote = H.wrote) ∨ ∃ k, n = .bad k := by
    intro n e
    unfold allocS at e
    split at e
    · unfold newS roomS at e
      rcases cond_split e with ⟨_, h⟩ | ⟨_, h⟩
      · subst h; exact .inl ⟨_, _, rfl, rfl⟩
      · subst h; exact .inr ⟨_, rfl⟩
    · subst e; exact .inr ⟨_, rfl⟩
   rcases hran with e | ⟨e, _⟩ | ⟨f, args, H2, e, _⟩
   · rcases key _ e with ⟨_, _, h, h'⟩ | ⟨_, h⟩ <;> cases h; exact h'
   · rcases key _ e with ⟨_, _, h, h'⟩ | ⟨_, h⟩ <;> cases h
   · rcases key _ e with ⟨_, _, h, h'⟩ | ⟨_, h⟩ <;> cases h
 | box e x =>
   refine ho ▸ none ?_
   rw [ho] at hran
   have key : ∀ n, opS P R H o.type (.box e x) = n → (∃ v H', n = .val v H' ∧ H'.wrote = H.wrote) ∨ ∃ k, n = .bad k := by
    intro n e
    rcases cond_split (show cond _ (newS H _ _ _) _ = n from e) with ⟨_, e⟩ | ⟨_, e⟩
    · unfold newS roomS at e
      rcases cond_split e with ⟨_, h⟩ | ⟨_, h⟩
      · subst h; exact .inl ⟨_, _, rfl, rfl⟩
      · subst h; exact .inr ⟨_, rfl⟩
    · subst e; exact .inr ⟨_, rfl⟩
   rcases hran with e | ⟨e, _⟩ | ⟨f, args, H2, e, _⟩
   · rcases key _ e with ⟨_, _, h, h'⟩ | ⟨_, h⟩ <;> cases h; exact h'
   · rcases key _ e with ⟨_, _, h, h'⟩ | ⟨_, h⟩ <;> cases h
   · rcases key _ e with ⟨_, _, h, h'⟩ | ⟨_, h⟩ <;> cases h
 | build t ps =>
   refine ho ▸ none ?_
   rw [ho] at hran
   have key : ∀ n, Nx.of 79 H (buildS P t (partsS R ps)) = n → (∃ v H', n = .val v H' ∧ H'.wrote = H.wrote) ∨ ∃ k, n = .bad k := by
    intro n e
    cases hb : buildS P t (partsS R ps) with
    | some u => rw [hb] at e; subst e; exact .inl ⟨_, _, rfl, rfl⟩
    | none => rw [hb] at e; subst e; exact .inr ⟨_, rfl⟩
   rcases hran with e | ⟨e, _⟩ | ⟨f, args, H2, e, _⟩
   · rcases key _ e with ⟨_, _, h, h'⟩ | ⟨_, h⟩ <;> cases h; exact h'
   · rcases key _ e with ⟨_, _, h, h'⟩ | ⟨_, h⟩ <;> cases h
   · rcases key _ e with ⟨_, _, h, h'⟩ | ⟨_, h⟩ <;> cases h
 | buildSlice t n ps =>
   refine ho ▸ none ?_
   rw [ho] at hran
   have key : ∀ m, buildSliceS P H t n (partsS R ps) = m → (∃ v H', m = .val v H' ∧ H'.wrote = H.wrote) ∨ ∃ k, m = .bad k := by
    intro n e
    unfold buildSliceS at e
    split at e
    · split at e
      · split at e
        · rcases cond_split e with ⟨_, e⟩ | ⟨_, e⟩
          · unfold newL roomS at e
            rcases cond_split e with ⟨_, h⟩ | ⟨_, h⟩
            · subst h; exact .inl ⟨_, _, rfl, rfl⟩
            · subst h; exact .inr ⟨_, rfl⟩
          · subst e; exact .inr ⟨_, rfl⟩
        · subst e; exact .inr ⟨_, rfl⟩
      · subst e; exact .inr ⟨_, rfl⟩
    · subst e; exact .inr ⟨_, rfl⟩
   rcases hran with e | ⟨e, _⟩ | ⟨f, args, H2, e, _⟩
   · rcases key _ e with ⟨_, _, h, h'⟩ | ⟨_, h⟩ <;> cases h; exact h'
   · rcases key _ e with ⟨_, _, h, h'⟩ | ⟨_, h⟩ <;> cases h
   · rcases key _ e with ⟨_, _, h, h'⟩ | ⟨_, h⟩ <;> cases h
 | makeSlice t l c =>
   refine ho ▸ none ?_
   rw [ho] at hran
   have key : ∀ m, makeSliceS P H t (evS R l) (evS R c) = m → (∃ v H', m = .val v H' ∧ H'.wrote = H.wrote) ∨ ∃ k, m = .bad k := by
    intro n e
    unfold makeSliceS at e
    split at e
    · split at e
      · rcases cond_split e with ⟨_, e⟩ | ⟨_, e⟩
        · unfold newL roomS at e
          rcases cond_split e with ⟨_, h⟩ | ⟨_, h⟩
          · subst h; exact .inl ⟨_, _, rfl, rfl⟩
          · subst h; exact .inr ⟨_, rfl⟩
        · subst e; exact .inr ⟨_, rfl⟩
      · subst e; exact .inr ⟨_, rfl⟩
    · subst e; exact .inr ⟨_, rfl⟩
   rcases hran with e | ⟨e, _⟩ | ⟨f, args, H2, e, _⟩
   · rcases key _ e with ⟨_, _, h, h'⟩ | ⟨_, h⟩ <;> cases h; exact h'
   · rcases key _ e with ⟨_, _, h, h'⟩ | ⟨_, h⟩ <;> cases h
   · rcases key _ e with ⟨_, _, h, h'⟩ | ⟨_, h⟩ <;> cases h
 | _ => first | (rw [ho] at hpf; cases hpf; done) | (refine ho ▸ but ?_; rw [ho]; rw [ho] at hpf; first | rfl | (show cond (pureO _) _ _ = _; rw [hpf]; rfl))
end
end
section
open Go.RowKit
set_option linter.unusedVariables false
set_option linter.unusedSimpArgs false
variable {bs : Inhabited Base}

section
variable {P : Program} {call : FuncId → List Value → Hp → Ret} {L : List Oper} {R0 : Regs} {N : Nat} {β0 : Bij} {w0 : World}
variable {Rs : Nat → Regs} {Hs : Nat → Hp} {V : Nat → Value} {H1 : Nat → Hp} {ex : Nat → Prop} {rd : Nat → Rdd}
theorem Trace.regs (T : Trace P call L R0 Rs Hs V H1 ex rd) {j : Nat} {o : Oper} (ho : L[j]? = some o) : Rs (j + 1) = putR (Rs j) (V j) o.dst := by
 by_cases h : ex j
 · exact (T.exec j o ho h).2.2.2.1
 · obtain ⟨_, h1, h2, _⟩ := T.skip j o ho h
   rw [h1]; exact h2
theorem Trace.wide (T : Trace P call L R0 Rs Hs V H1 ex rd) (h0 : Rs 0 = R0) (hw : Wide R0) : ∀ j, j ≤ L.length → Wide (Rs j) := by
 intro j
 induction j with
 | zero => intro _; rw [h0]; exact hw
 | succ j ih =>
   intro hj
   rw [T.regs (List.getElem?_eq_getElem hj)]
   exact (ih (by omega)).put _ _
/-- a slot in text order: the last one that wrote it -/
theorem Trace.slot (T : Trace P call L R0 Rs Hs V H1 ex rd) (h0 : Rs 0 = R0) (hw : Wide R0) {t : Nat} (ht : t < 1000) : ∀ j, j ≤ L.length →
  (∃ (i : Nat) (o : Oper), i < j ∧ L[i]? = some o ∧ o.dst = some t ∧ getR (Rs j) t = V i ∧ ∀ (i' : Nat) (o' : Oper), i' < j → L[i']? = some o' → o'.dst = some t → i' ≤ i) ∨
  ((∀ (i' : Nat) (o' : Oper), i' < j → L[i']? = some o' → o'.dst ≠ some t) ∧ getR (Rs j) t = getR R0 t) := by
 intro j
 induction j with
 | zero => intro _; rw [h0]; exact .inr ⟨fun i' o' h => by omega, rfl⟩
 | succ j ih =>
   intro hj
   have ho := List.getElem?_eq_getElem hj
   generalize L[j] = o at ho
   have hr := T.regs ho
   have hwd := T.wide h0 hw j (by omega)
   by_cases hd : o.dst = some t
   · left
     refine ⟨j, o, by omega, ho, hd, ?_, fun i' o' h _ _ => by omega⟩
     rw [hr, hd]
     show getR ((Rs j).set (V j) (Nat.succ t)) t = V j
     rw [getR_set _ _ _ _ (hwd t ht), if_pos rfl]
   · have e : getR (Rs (j + 1)) t = getR (Rs j) t := by
      rw [hr]
      cases hdd : o.dst with
      | none => rfl
      | some d =>
        show getR ((Rs j).set (V j) (Nat.succ d)) t = _
        unfold getR
        rw [Tr.get_set_other _ _ _ _ (by intro h; exact hd (by rw [hdd, Nat.succ.inj h]))]
     rcases ih (by omega) with ⟨i, x, h1, h2, h3, h4, h5⟩ | ⟨h1, h2⟩
     · refine .inl ⟨i, x, by omega, h2, h3, by rw [e]; exact h4, fun i' o' hi ho' hd' => ?_⟩
       rcases Nat.lt_or_ge i' j with h | h
       · exact h5 i' o' h ho' hd'
       · obtain rfl : i' = j := (by omega)
         rw [ho] at ho'; cases ho'
         exact absurd hd' hd
     · refine .inr ⟨fun i' o' hi ho' hd' => ?_, by rw [e]; exact h2⟩
       rcases Nat.lt_or_ge i' j with h | h
       · exact h1 i' o' h ho' hd'
       · obtain rfl : i' = j := (by omega)
         rw [ho] at ho'; cases ho'
         exact absurd hd' hd
theorem dst_named {o : Oper} {d : Tmp} (h : o.dst = some d) : d ∈ namesOf L o := by
 unfold namesOf
 rw [h]
 exact List.mem_append_left _ (List.mem_cons_self ..)

/-- the heap ahead of an operation, as far as it was made by then -/
def near (β : Bij) (n : Nat) : Bij := fun b => if b < n then β b else none
theorem near_inv {β : Bij} {n b : Nat} {k : Bk} (h : near β n b = some k) : b < n ∧ β b = some k := by
 unfold near at h
 split at h
 · rename_i hb; exact ⟨hb, h⟩
 · cases h
theorem near_of {β : Bij} {n b : Nat} {k : Bk} (hb : b < n) (h : β b = some k) : near β n b = some k := by
 unfold near; rw [if_pos hb]; exact h
def Allowed (L : List Oper) (Hs H1 : Nat → Hp) (ex D : Nat → Prop) (β : Bij) (j g : Nat) : Prop :=
 memN (Hs 0).ban g = false ∧ ∀ (b : Nat) (k : Bk) (q : Blk), near β (Hs j).next b = some k → (Hs j).tr.get b = some q → q.grp = g → Stage L.length Hs H1 ex D g j

section
variable {D : Nat → Prop} {β : Bij} {a : Act} {w : World} {j : Nat} {o : Oper}

theorem step_regs (T : Trace P call L R0 Rs Hs V H1 ex rd) (F : Facts L R0 β0 Rs Hs V H1 ex) (hd : DrawOk L) (I : Inv L R0 N β0 w0 Hs V H1 ex D β a w) (h0 : Rs 0 = R0) (hw : Wide R0) (ho : L[j]? = some o) (hD : ¬ D j) (hr : Ready L D j) : RR (near β (Hs j).next) (selR (Rs j) (namesOf L o)) a.tmps := by
 have hj : j < L.length := (List.getElem?_eq_some_iff.1 ho).1
 refine sel_RR I.top _ (fun t ht => ?_)
 have ht1 := hd.small j o ho t ht
 have hA : ∀ (i : Nat) (x : Oper), i < j → L[i]? = some x → x.dst = some t → D i := fun i x hi hx hdx =>
  mask_in hd I.cl j o ho hr i (hd.meet i j o x ho hx hi (.inl ⟨t, hdx, ht⟩))
 have hB : ∀ (i : Nat) (x : Oper), D i → L[i]? = some x → x.dst = some t → i < j := fun i x hDi hx hdx => by
  rcases Nat.lt_trichotomy i j with h | h | h
  · exact h
  · subst h; exact absurd hDi hD
  · exact absurd (mask_in hd I.cl i x hx (fun o' ho' => I.cl i o' ho' hDi) j (hd.meet j i x o hx ho h (.inr ⟨t, hdx, ht⟩))) hD
 refine VR.cut ?_ (F.regs j (by omega) t)
 rcases T.slot h0 hw ht1 j (by omega) with ⟨i, x, h1, h2, h3, h4, h5⟩ | ⟨h1, h2⟩
 · rw [h4]
   exact I.reg1 t i x (hA i x h1 h2 h3) h2 h3 (fun i' o' hDi ho' hd' => h5 i' o' (hB i' o' hDi ho' hd') ho' hd')
 · rw [h2]
   exact I.reg0 t (fun i x hDi hx hdx => h1 i x (hB i x hDi hx hdx) hx hdx)

theorem step_wanted (T : Trace P call L R0 Rs Hs V H1 ex rd) (F : Facts L R0 β0 Rs Hs V H1 ex) (hd : DrawOk L) (I : Inv L R0 N β0 w0 Hs V H1 ex D β a w) (h0 : Rs 0 = R0) (hw : Wide R0) {ops : Array Oper} (hL : ops.toList = L) (ho : L[j]? = some o) (hD : ¬ D j) (hr : Ready L D j) {t : Bool} (ht : wantedS L (Rs j) o.guard = some t) : Region.wanted o (yielded ops a.tmps) = t := by
 have h1 := step_regs T F hd I h0 hw ho hD hr
 have hsm := hd.small j o ho
 subst hL
 refine wanted_eq h1 ?_
 rw [← ht]
 cases hg : o.guard with
 | none => rfl
 | some p =>
   obtain ⟨g, want⟩ := p
   show (match (nth ops.toList g).bind (·.dst) with | some d => yieldS want (getR _ d) | none => some false) = (match (nth ops.toList g).bind (·.dst) with | some d => yieldS want (getR _ d) | none => some false)
   cases hn : (nth ops.toList g).bind (·.dst) with
   | none => rfl
   | some d =>
     have hm : d ∈ namesOf ops.toList o := by
      unfold namesOf
      refine List.mem_append_right _ (List.mem_append_right _ ?_)
      rw [hg]
      simp only
      rw [nth_eq] at hn
      rw [hn]
      exact List.mem_cons_self ..
     simp only
     rw [sel_in _ _ _ hm (hsm d hm)]

theorem step_HR (T : Trace P call L R0 Rs Hs V H1 ex rd) (F : Facts L R0 β0 Rs Hs V H1 ex) (hd : DrawOk L) (I : Inv L R0 N β0 w0 Hs V H1 ex D β a w) (ho : L[j]? = some o) : HR (Allowed L Hs H1 ex D β j) (near β (Hs j).next) (enterD (banAt L R0 (Hs j) j) (Hs j)) w := by
 have hj : j < L.length := (List.getElem?_eq_some_iff.1 ho).1
 refine ⟨fun b k hb => ?_, fun b k q hb hq hl hA => ?_, fun b b' k k' q q' hb hb' hq hq' e => ?_, fun b k h => near_of (Nat.lt_of_lt_of_le (I.low b k h).2 (F.next_mono (Nat.zero_le j) (by omega))) (I.low b k h).1, I.fix, fun b k h => I.apart b k (near_inv h).2⟩
 · obtain ⟨h1, h2⟩ := near_inv hb
   obtain ⟨q, h3, h4, _⟩ := I.rec_ b k h2
   obtain ⟨q', h5, h6, h7⟩ := F.rec_of (by omega) h1 h3
   exact ⟨h1, I.blk b k h2, q', h5, h7.trans h4⟩
 · obtain ⟨h1, h2⟩ := near_inv hb
   have hq : (Hs j).tr.get b = some q := hq
   have hl : (Hs j).since q ≤ b := hl
   obtain ⟨cs, h3, h4, h5⟩ := I.row b k j q h2 (by omega) hq (hA.2 b k q hb hq rfl) hl hA.1
   have hkn : Known β0 (Hs 0).next b := by
    rcases I.new b k h2 with h | ⟨h, _⟩
    · exact .inl ⟨k, h⟩
    · exact .inr h
   refine ⟨cs, h3, h4, fun i x hx => ?_⟩
   obtain ⟨y, hy, hv⟩ := h5 i x hx
   exact ⟨y, hy, hv.cut (F.row j (by omega) b q hq hkn hl hA.1 x (List.mem_of_getElem? hx))⟩
 · obtain ⟨_, h1⟩ := near_inv hb
   obtain ⟨_, h2⟩ := near_inv hb'
   obtain ⟨p, h3, _⟩ := I.rec_ b k h1
   obtain ⟨p', h4, _⟩ := I.rec_ b' k' h2
   have hq : (Hs j).tr.get b = some q := hq
   have hq' : (Hs j).tr.get b' = some q' := hq'
   have e1 := (F.alike (by omega) (Nat.le_refl _) hq h3).1
   have e2 := (F.alike (by omega) (Nat.le_refl _) hq' h4).1
   rw [e1, e2]
   exact I.share b b' k k' p p' h1 h2 h3 h4 e

theorem step_allowed (T : Trace P call L R0 Rs Hs V H1 ex rd) (F : Facts L R0 β0 Rs Hs V H1 ex) (hd : DrawOk L) (I : Inv L R0 N β0 w0 Hs V H1 ex D β a w) (ho : L[j]? = some o) (hD : ¬ D j) (hr : Ready L D j) (hex : ex j) {g : Nat} (hg : (rd j).has g = true) (hb : memN (banAt L R0 (Hs j) j) g = false) : Allowed L Hs H1 ex D β j g := by
 have hj : j < L.length := (List.getElem?_eq_some_iff.1 ho).1
 refine ⟨by rw [← F.ban j (by omega)]; exact ban_sub hb, fun b k q hbk hq he i hi ht => ?_⟩
 obtain ⟨h1, h2⟩ := near_inv hbk
 obtain ⟨hei, ht⟩ := ht
 have hgn : g ≤ b := by rw [← he]; exact ((F.wf j (by omega)).grp b q hq).2.1
 rcases Nat.lt_trichotomy i j with hij | hij | hij
 · refine ⟨fun _ => hij, fun _ => ?_⟩
   rcases ht with ht | ht
   · rcases ordered T hd hi hj (by omega) hei hex ht hg with ⟨_, h⟩ | ⟨h, _⟩
     · exact mask_in hd I.cl j o ho hr i h
     · omega
   · obtain ⟨p, h3, _, _, h4⟩ := I.rec_ b k h2
     rw [← (F.alike (by omega) (Nat.le_refl _) hq h3).1, he] at h4
     rcases h4 with h4 | ⟨d, hDd, _, h4⟩
     · have := New.old F ht hi; omega
     · have := New.unique F h4 ht (I.lt d hDd) hi
       rw [← this]; exact hDd
 · subst hij
   exact ⟨fun h => absurd h hD, fun h => absurd h (by omega)⟩
 · refine ⟨fun hDi => ?_, fun h => absurd h (by omega)⟩
   exfalso
   rcases ht with ht | ht
   · rcases ordered T hd hi hj (by omega) hei hex ht hg with ⟨h, _⟩ | ⟨_, h⟩
     · omega
     · exact hD (mask_in hd I.cl i _ (List.getElem?_eq_getElem hi) (fun o' ho' => I.cl i o' ho' hDi) j h)
   · have := F.next_mono (i := j) (j := i) (by omega) (by omega)
     have := ht.1
     omega
end
end
end
end Go.Proofs.YtnoppoifepbchaaDoor.Sh
