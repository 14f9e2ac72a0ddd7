/- Rows laid in one another, without a program. -/
namespace Go.Proofs.YtjeebcnjdhlcfaaDoor
set_option linter.unusedVariables false

abbrev Pr := Int × Int

/-- may a row be laid? -/
def rowMay (r : List Pr) : Bool := (r.all fun p => decide (0 ≤ p.1 ∧ p.1 ≤ 999)) && decide (r.map (·.1)).Nodup
/-- may rows be laid? -/
def mayS (rows : List (List Pr)) : Bool := decide (rows.length ≤ 400) && rows.all rowMay
abbrev rowAt (rows : List (List Pr)) (i : Nat) : List Pr := rows.getD i []
/-- is row i laid ahead of row j? -/
def Ahead (rows : List (List Pr)) (i j : Nat) : Prop := (rowAt rows j).length < (rowAt rows i).length ∨ ((rowAt rows i).length = (rowAt rows j).length ∧ i < j)
/-- the rows that have pairs, in the order in which they are laid -/
def IsOrder (rows : List (List Pr)) (l : List Nat) : Prop := l.Pairwise (Ahead rows) ∧ ∀ i, i ∈ l ↔ i < rows.length ∧ rowAt rows i ≠ []

theorem pw_unique {α : Type} {r : α → α → Prop} (irr : ∀ x, ¬ r x x) (asym : ∀ x y, r x y → ¬ r y x) : ∀ l l' : List α, l.Pairwise r → l'.Pairwise r → (∀ x, x ∈ l ↔ x ∈ l') → l = l' := by
  intro l
  induction l with
  | nil =>
    intro l' _ _ h
    cases l' with
    | nil => rfl
    | cons b t => exact absurd ((h b).2 (by simp)) (by simp)
  | cons a t ih =>
    intro l' h1 h2 h
    cases l' with
    | nil => exact absurd ((h a).1 (by simp)) (by simp)
    | cons b u =>
      obtain ⟨ha, ht⟩ := List.pairwise_cons.1 h1
      obtain ⟨hb, hu⟩ := List.pairwise_cons.1 h2
      have e : a = b := by
        rcases List.mem_cons.1 ((h a).1 (by simp)) with e | e
        · exact e
        · rcases List.mem_cons.1 ((h b).2 (by simp)) with e2 | e2
          · exact e2.symm
          · exact absurd (hb _ e) (asym _ _ (ha _ e2))
      subst e
      congr 1
      refine ih u ht hu (fun x => ⟨fun hx => ?_, fun hx => ?_⟩)
      · rcases List.mem_cons.1 ((h x).1 (List.mem_cons_of_mem _ hx)) with e | e
        · subst e; exact absurd (ha _ hx) (irr _)
        · exact e
      · rcases List.mem_cons.1 ((h x).2 (List.mem_cons_of_mem _ hx)) with e | e
        · subst e; exact absurd (hb _ hx) (irr _)
        · exact e

theorem ahead_irr (rows : List (List Pr)) (x : Nat) : ¬ Ahead rows x x := by unfold Ahead; omega
theorem ahead_asym (rows : List (List Pr)) (x y : Nat) : Ahead rows x y → ¬ Ahead rows y x := by unfold Ahead; omega
theorem ahead_trans (rows : List (List Pr)) (x y z : Nat) : Ahead rows x y → Ahead rows y z → Ahead rows x z := by unfold Ahead; omega
theorem ahead_total (rows : List (List Pr)) (x y : Nat) : Ahead rows x y ∨ x = y ∨ Ahead rows y x := by unfold Ahead; omega
theorem order_unique {rows : List (List Pr)} {l l' : List Nat} (h : IsOrder rows l) (h' : IsOrder rows l') : l = l' :=
  pw_unique (ahead_irr rows) (ahead_asym rows) l l' h.1 h'.1 (fun x => (h.2 x).trans (h'.2 x).symm)

/-- the rows that have pairs -/
def fullS (rows : List (List Pr)) : List Nat := (List.range rows.length).filter fun i => !(rowAt rows i).isEmpty
def aheadB (rows : List (List Pr)) (i j : Nat) : Bool := decide ((rowAt rows j).length < (rowAt rows i).length ∨ ((rowAt rows i).length = (rowAt rows j).length ∧ i ≤ j))
def orderS (rows : List (List Pr)) : List Nat := (fullS rows).mergeSort (aheadB rows)

theorem mem_fullS (rows : List (List Pr)) (i : Nat) : i ∈ fullS rows ↔ i < rows.length ∧ rowAt rows i ≠ [] := by
  unfold fullS; simp
theorem fullS_nodup (rows : List (List Pr)) : (fullS rows).Nodup := List.Pairwise.filter _ List.nodup_range
theorem orderS_is (rows : List (List Pr)) : IsOrder rows (orderS rows) := by
  have hp := List.mergeSort_perm (fullS rows) (aheadB rows)
  refine ⟨?_, fun i => ?_⟩
  · have hs : (orderS rows).Pairwise (fun a b => aheadB rows a b = true) := by
      refine List.pairwise_mergeSort (le := aheadB rows) ?_ ?_ _
      · intro a b c; unfold aheadB; simp only [decide_eq_true_eq]; omega
      · intro a b; unfold aheadB; simp only [Bool.or_eq_true, decide_eq_true_eq]; omega
    have hn : (orderS rows).Nodup := hp.nodup_iff.2 (fullS_nodup rows)
    refine (hs.and hn).imp ?_
    intro a b ⟨h1, h2⟩
    unfold aheadB at h1
    simp only [decide_eq_true_eq] at h1
    unfold Ahead
    omega
  · rw [show orderS rows = (fullS rows).mergeSort (aheadB rows) from rfl, hp.mem_iff, mem_fullS]
theorem orderS_len (rows : List (List Pr)) : (orderS rows).length = (fullS rows).length := (List.mergeSort_perm (fullS rows) (aheadB rows)).length_eq

/-! ### places -/
def fitsB (chk : List Int) (row : List Pr) (b : Nat) : Bool := row.all fun p => chk.getD (b + p.1.toNat) 0 == 0
/-- the least place at which a row fits -/
def leastFit (chk : List Int) (row : List Pr) : Nat := ((List.range (chk.length + 1)).find? (fitsB chk row)).getD 0

theorem getD_ge {α : Type} (l : List α) (k : Nat) (d : α) (h : l.length ≤ k) : l.getD k d = d := by
  rw [List.getD_eq_getElem?_getD, List.getElem?_eq_none h]; rfl
theorem fits_end (chk : List Int) (row : List Pr) (b : Nat) (h : chk.length ≤ b) : fitsB chk row b = true := by
  unfold fitsB
  rw [List.all_eq_true]
  intro p _
  rw [getD_ge _ _ _ (by omega)]; rfl
theorem least_spec (chk : List Int) (row : List Pr) : fitsB chk row (leastFit chk row) = true ∧ leastFit chk row ≤ chk.length ∧ ∀ b, b < leastFit chk row → fitsB chk row b = false := by
  unfold leastFit
  cases hf : (List.range (chk.length + 1)).find? (fitsB chk row) with
  | none =>
    rw [List.find?_range_eq_none] at hf
    have := hf chk.length (by omega)
    rw [fits_end chk row _ (Nat.le_refl _)] at this
    cases this
  | some k =>
    obtain ⟨h1, h2, h3⟩ := List.find?_range_eq_some.1 hf
    refine ⟨h1, by simp at h2 ⊢; omega, fun b hb => ?_⟩
    have := h3 b hb
    simpa using this
theorem least_unique (chk : List Int) (row : List Pr) (b : Nat) (h1 : fitsB chk row b = true) (h2 : ∀ c, c < b → fitsB chk row c = false) : leastFit chk row = b := by
  obtain ⟨a1, a2, a3⟩ := least_spec chk row
  rcases Nat.lt_trichotomy (leastFit chk row) b with h | h | h
  · rw [h2 _ h] at a1; cases a1
  · exact h
  · rw [a3 _ h] at h1; cases h1

/-- a number at a place, noughts up to it -/
def setPad (l : List Int) (i : Nat) (x : Int) : List Int := (l ++ List.replicate (i + 1 - l.length) 0).set i x
theorem setPad_len (l : List Int) (i : Nat) (x : Int) : (setPad l i x).length = max l.length (i + 1) := by
  unfold setPad; simp; omega
theorem setPad_getD (l : List Int) (i j : Nat) (x : Int) : (setPad l i x).getD j 0 = if j = i then x else l.getD j 0 := by
  unfold setPad
  rw [List.getD_eq_getElem?_getD, List.getElem?_set]
  by_cases h : i = j
  · subst h
    rw [if_pos rfl, if_pos (by simp; omega), if_pos rfl]; rfl
  · rw [if_neg h, if_neg (Ne.symm h), List.getElem?_append]
    by_cases hj : j < l.length
    · rw [if_pos hj, List.getD_eq_getElem?_getD]
    · have hn : l[j]? = none := List.getElem?_eq_none (by omega)
      rw [if_neg hj, List.getD_eq_getElem?_getD, hn, List.getElem?_replicate]
      split <;> rfl
theorem pad_in (l : List Int) (i : Nat) (h : i < l.length) (x : Int) : setPad l i x = l.set i x := by
  unfold setPad; rw [show i + 1 - l.length = 0 by omega]; simp

/-- a row's pairs at a place, values and whose -/
def putRow (i b : Nat) (row : List Pr) (s : List Int × List Int) : List Int × List Int := row.foldl (fun s p => (setPad s.1 (b + p.1.toNat) ((i : Int) + 1), setPad s.2 (b + p.1.toNat) p.2)) s
/-- one row more: bases, whose, values -/
def layOne (rows : List (List Pr)) (s : List Int × List Int × List Int) (i : Nat) : List Int × List Int × List Int :=
  (s.1.set i (leastFit s.2.1 (rowAt rows i) : Nat), putRow i (leastFit s.2.1 (rowAt rows i)) (rowAt rows i) s.2)
def start (rows : List (List Pr)) : List Int × List Int × List Int := (List.replicate rows.length 0, [], [])
/-- the rows laid: bases, whose, values -/
def layS (rows : List (List Pr)) : List Int × List Int × List Int := if mayS rows then (orderS rows).foldl (layOne rows) (start rows) else ([], [], [])

theorem putRow_cons (i b : Nat) (p : Pr) (r : List Pr) (s : List Int × List Int) : putRow i b (p :: r) s = putRow i b r (setPad s.1 (b + p.1.toNat) ((i : Int) + 1), setPad s.2 (b + p.1.toNat) p.2) := rfl
theorem putRow_snoc (i b : Nat) (p : Pr) (r : List Pr) (s : List Int × List Int) : putRow i b (r ++ [p]) s = (setPad (putRow i b r s).1 (b + p.1.toNat) ((i : Int) + 1), setPad (putRow i b r s).2 (b + p.1.toNat) p.2) := by
  unfold putRow; rw [List.foldl_append]; rfl

/-- what stands at a place behind a row was put -/
structure RowPut (i b : Nat) (row : List Pr) (s t : List Int × List Int) : Prop where
  len : s.1.length = s.2.length → t.1.length = t.2.length
  mono : s.1.length ≤ t.1.length
  at1 : ∀ p ∈ row, t.1.getD (b + p.1.toNat) 0 = (i : Int) + 1 ∧ b + p.1.toNat < t.1.length
  out : ∀ j, (∀ p ∈ row, j ≠ b + p.1.toNat) → t.1.getD j 0 = s.1.getD j 0 ∧ t.2.getD j 0 = s.2.getD j 0
  last : t.1.length = s.1.length ∨ ∃ p ∈ row, t.1.length = b + p.1.toNat + 1
  val : (row.map (·.1.toNat)).Nodup → ∀ p ∈ row, t.2.getD (b + p.1.toNat) 0 = p.2
theorem putRow_is (i b : Nat) : ∀ (row : List Pr) (s : List Int × List Int), RowPut i b row s (putRow i b row s) := by
  intro row
  induction row with
  | nil => intro s; exact ⟨id, Nat.le_refl _, fun p h => absurd h (by simp), fun j _ => ⟨rfl, rfl⟩, .inl rfl, fun _ p h => absurd h (by simp)⟩
  | cons p r ih =>
    intro s
    have H := ih (setPad s.1 (b + p.1.toNat) ((i : Int) + 1), setPad s.2 (b + p.1.toNat) p.2)
    rw [putRow_cons]
    have hl := setPad_len s.1 (b + p.1.toNat) ((i : Int) + 1)
    have hm : (setPad s.1 (b + p.1.toNat) ((i : Int) + 1)).length ≤ (putRow i b r (setPad s.1 (b + p.1.toNat) ((i : Int) + 1), setPad s.2 (b + p.1.toNat) p.2)).1.length := H.mono
    refine ⟨fun h => H.len (by simp only [setPad_len, h]), by omega, fun q hq => ?_, fun j hj => ?_, ?_, fun hn q hq => ?_⟩
    · by_cases hr : ∃ q' ∈ r, b + q.1.toNat = b + q'.1.toNat
      · obtain ⟨q', h1, h2⟩ := hr
        rw [h2]; exact H.at1 q' h1
      · have hne : ∀ q' ∈ r, b + q.1.toNat ≠ b + q'.1.toNat := fun q' h e => hr ⟨q', h, e⟩
        rcases List.mem_cons.1 hq with e | e
        · subst e
          refine ⟨?_, by omega⟩
          rw [(H.out _ hne).1]
          show (setPad s.1 _ _).getD _ 0 = _
          rw [setPad_getD, if_pos rfl]
        · exact absurd rfl (hne q e)
    · have h1 := H.out j (fun q hq => hj q (List.mem_cons_of_mem _ hq))
      have h2 := hj p (by simp)
      refine ⟨h1.1.trans ?_, h1.2.trans ?_⟩
      · show (setPad s.1 _ _).getD _ 0 = _
        rw [setPad_getD, if_neg h2]
      · show (setPad s.2 _ _).getD _ 0 = _
        rw [setPad_getD, if_neg h2]
    · rcases H.last with h | ⟨q, h1, h2⟩
      · have h' : (putRow i b r (setPad s.1 (b + p.1.toNat) ((i : Int) + 1), setPad s.2 (b + p.1.toNat) p.2)).1.length = max s.1.length (b + p.1.toNat + 1) := h.trans hl
        by_cases hc : b + p.1.toNat + 1 ≤ s.1.length
        · left; omega
        · right; exact ⟨p, by simp, by omega⟩
      · right; exact ⟨q, by simp [h1], h2⟩
    · have hn' := List.nodup_cons.1 hn
      rcases List.mem_cons.1 hq with e | e
      · subst e
        have hne : ∀ q' ∈ r, b + q.1.toNat ≠ b + q'.1.toNat := fun q' h e => hn'.1 (by rw [List.mem_map]; exact ⟨q', h, by show q'.1.toNat = q.1.toNat; omega⟩)
        rw [(H.out _ hne).2]
        show (setPad s.2 _ _).getD _ 0 = _
        rw [setPad_getD, if_pos rfl]
      · exact H.val hn'.2 q e

theorem getD_ext {a b : List Int} (hl : a.length = b.length) (h : ∀ j, a.getD j 0 = b.getD j 0) : a = b := by
  apply List.ext_getElem hl
  intro i h1 h2
  have := h i
  rw [List.getD_eq_getElem?_getD, List.getD_eq_getElem?_getD, List.getElem?_eq_getElem h1, List.getElem?_eq_getElem h2] at this
  simpa using this
end Go.Proofs.YtjeebcnjdhlcfaaDoor
