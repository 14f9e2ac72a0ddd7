/- Rows without gaps lie one behind the other; a row more; without a program. -/
import Derived.Test.YtjeebcnjdhlcfaaDoorCombP3
namespace Go.Proofs.YtjeebcnjdhlcfaaDoor
set_option linter.unusedVariables false

/-- the places from 0 on, one value -/
def flatRow (wide : Nat) (v : Int) : List Pr := (List.range wide).map fun (k : Nat) => ((k : Int), v)
theorem flatRow_len (wide : Nat) (v : Int) : (flatRow wide v).length = wide := by simp [flatRow]
theorem flatRow_mem (wide : Nat) (v : Int) (p : Pr) : p ∈ flatRow wide v ↔ ∃ k, k < wide ∧ p = ((k : Int), v) := by
  unfold flatRow
  rw [List.mem_map]
  constructor
  · rintro ⟨k, hk, rfl⟩; exact ⟨k, by simpa using hk, rfl⟩
  · rintro ⟨k, hk, rfl⟩; exact ⟨k, by simpa using hk, rfl⟩
theorem flatRow_may (wide : Nat) (v : Int) (h : wide ≤ 1000) : rowMay (flatRow wide v) = true := by
  unfold rowMay
  rw [Bool.and_eq_true, List.all_eq_true]
  refine ⟨fun p hp => ?_, ?_⟩
  · obtain ⟨k, hk, rfl⟩ := (flatRow_mem _ _ _).1 hp
    simp; omega
  · rw [decide_eq_true_eq]
    unfold flatRow
    rw [List.map_map]
    refine List.Pairwise.map _ ?_ (List.nodup_range (n := wide))
    intro a b hab e
    have e' : (a : Int) = (b : Int) := e
    omega

/-- n rows without gaps, behind them none that has pairs but the last -/
def FlatUp (rows : List (List Pr)) (n wide : Nat) : Prop := ∀ i, i < n → ∃ v, rowAt rows i = flatRow wide v

/-- behind k of them -/
structure FlatTo (k wide : Nat) (s : List Int × List Int × List Int) : Prop where
  len : s.2.1.length = k * wide
  full : ∀ j, j < k * wide → s.2.1.getD j 0 ≠ 0
  base : ∀ i, i < k → s.1.getD i 0 = ((i * wide : Nat) : Int)

theorem flat_step {rows : List (List Pr)} {n wide k : Nat} (hw : 0 < wide) (hf : FlatUp rows n wide) (hk : k < n) (s : List Int × List Int × List Int) (hn : n ≤ s.1.length) (h : FlatTo k wide s) : FlatTo (k + 1) wide (layOne rows s k) := by
  obtain ⟨v, hv⟩ := hf k hk
  have hl : leastFit s.2.1 (rowAt rows k) = k * wide := by
    refine least_unique _ _ _ (fits_end _ _ _ (by rw [h.len]; exact Nat.le_refl _)) (fun c hc => ?_)
    unfold fitsB
    rw [List.all_eq_false]
    refine ⟨((0 : Nat), v), ?_, ?_⟩
    · rw [hv, flatRow_mem]; exact ⟨0, hw, rfl⟩
    · simp only [beq_iff_eq]
      exact h.full c hc
  have H := putRow_is k (k * wide) (rowAt rows k) s.2
  unfold layOne
  rw [hl]
  generalize putRow k (k * wide) (rowAt rows k) s.2 = t at H ⊢
  have hmem : ∀ j, j < wide → ((j : Int), v) ∈ rowAt rows k := fun j hj => by rw [hv, flatRow_mem]; exact ⟨j, hj, rfl⟩
  have e1 : (k + 1) * wide = k * wide + wide := Nat.succ_mul _ _
  refine ⟨?_, fun j hj => ?_, fun i hi => ?_⟩
  · show t.1.length = _
    have h1 := (H.at1 _ (hmem (wide - 1) (by omega))).2
    simp only [Int.toNat_natCast] at h1
    rcases H.last with e | ⟨p, hp, e⟩
    · have := h.len; omega
    · rw [hv, flatRow_mem] at hp
      obtain ⟨q, hq, rfl⟩ := hp
      simp only [Int.toNat_natCast] at e
      omega
  · show t.1.getD j 0 ≠ 0
    by_cases hc : j < k * wide
    · rw [(H.out j (fun p hp e => ?_)).1]
      · exact h.full j hc
      · omega
    · have h1 := (H.at1 _ (hmem (j - k * wide) (by omega))).1
      simp only [Int.toNat_natCast] at h1
      rw [show k * wide + (j - k * wide) = j by omega] at h1
      rw [h1]; omega
  · show (s.1.set k _).getD i 0 = _
    rw [getD_set _ _ _ _ _ (by omega)]
    split
    · rename_i e; subst e; rfl
    · exact h.base i (by omega)

theorem layOne_blen (rows : List (List Pr)) : ∀ (l : List Nat) (s : List Int × List Int × List Int), (l.foldl (layOne rows) s).1.length = s.1.length := by
  intro l
  induction l with
  | nil => intro s; rfl
  | cons a t ih => intro s; rw [List.foldl_cons, ih]; simp [layOne]

theorem flat_run {rows : List (List Pr)} {n wide : Nat} (hw : 0 < wide) (hf : FlatUp rows n wide) (hn : n ≤ rows.length) : ∀ k, k ≤ n → FlatTo k wide ((List.range k).foldl (layOne rows) (start rows)) := by
  intro k
  induction k with
  | zero => intro _; exact ⟨by simp [start], fun j hj => absurd hj (by simp), fun i hi => absurd hi (by simp)⟩
  | succ k ih =>
    intro hk
    rw [List.range_succ, List.foldl_append]
    exact flat_step hw hf (by omega) _ (by rw [layOne_blen]; simp [start]; omega) (ih (by omega))

theorem rowAt_app (a b : List (List Pr)) (i : Nat) : rowAt (a ++ b) i = if i < a.length then rowAt a i else rowAt b (i - a.length) := by
  unfold rowAt
  rw [List.getD_eq_getElem?_getD, List.getElem?_append]
  split <;> rw [List.getD_eq_getElem?_getD]

/-- n rows without gaps -/
theorem lay_flat {rows : List (List Pr)} {wide : Nat} (hw : 0 < wide) (hw2 : wide ≤ 1000) (hn : rows.length ≤ 400) (hf : FlatUp rows rows.length wide) : mayS rows = true ∧ (layS rows).1.length = rows.length ∧ FlatTo rows.length wide (layS rows) := by
  have hm : mayS rows = true := by
    unfold mayS
    rw [Bool.and_eq_true, decide_eq_true_eq, List.all_eq_true]
    refine ⟨hn, fun r hr => ?_⟩
    obtain ⟨i, hi, rfl⟩ := List.mem_iff_getElem.1 hr
    obtain ⟨v, hv⟩ := hf i hi
    have : rows[i] = flatRow wide v := by
      rw [← hv]; unfold rowAt; rw [List.getD_eq_getElem?_getD, List.getElem?_eq_getElem hi]; rfl
    rw [this]; exact flatRow_may _ _ hw2
  have ho : orderS rows = List.range rows.length := by
    refine order_unique (orderS_is rows) ⟨?_, fun i => ?_⟩
    · refine (List.pairwise_lt_range (n := rows.length)).imp_of_mem ?_
      intro a b ha hb hab
      obtain ⟨v, hv⟩ := hf a (by simpa using ha)
      obtain ⟨u, hu⟩ := hf b (by simpa using hb)
      unfold Ahead
      rw [hv, hu, flatRow_len, flatRow_len]
      omega
    · simp only [List.mem_range]
      constructor
      · intro hi
        refine ⟨hi, ?_⟩
        obtain ⟨v, hv⟩ := hf i hi
        rw [hv, ← List.length_pos_iff, flatRow_len]; exact hw
      · exact fun h => h.1
  refine ⟨hm, ?_, ?_⟩
  · exact (laid_all hm).blen
  · unfold layS
    rw [if_pos hm, ho]
    exact flat_run hw hf (Nat.le_refl _) _ (Nat.le_refl _)

/-- a row of one pair behind them and rows that have none -/
theorem lay_more {rows : List (List Pr)} {n wide : Nat} (hw : 0 < wide) (hw2 : wide ≤ 1000) (hn : n ≤ 399) (hl : rows.length = 400) (hf : FlatUp rows n wide) (he : ∀ i, n ≤ i → i < 399 → rowAt rows i = []) (h9 : rowAt rows 399 = [(999, 1)]) :
    mayS rows = true ∧ (orderS rows).length = n + 1 ∧ (layS rows).1.length = 400 ∧ (((layS rows).2.1.length : Nat) : Int) = max (1000 + (layS rows).1.getD 399 0) ((n * wide : Nat) : Int) := by
  have hm : mayS rows = true := by
    unfold mayS
    rw [Bool.and_eq_true, decide_eq_true_eq, List.all_eq_true]
    refine ⟨by omega, fun r hr => ?_⟩
    obtain ⟨i, hi, rfl⟩ := List.mem_iff_getElem.1 hr
    have e : rows[i] = rowAt rows i := by
      unfold rowAt; rw [List.getD_eq_getElem?_getD, List.getElem?_eq_getElem hi]; rfl
    rw [e]
    by_cases h1 : i < n
    · obtain ⟨v, hv⟩ := hf i h1
      rw [hv]; exact flatRow_may _ _ hw2
    · by_cases h2 : i < 399
      · rw [he i (by omega) h2]; rfl
      · rw [show i = 399 by omega, h9]; rfl
  have ho : orderS rows = List.range n ++ [399] := by
    refine order_unique (orderS_is rows) ⟨?_, fun i => ?_⟩
    · rw [List.pairwise_append]
      refine ⟨?_, by simp, fun a ha b hb => ?_⟩
      · refine (List.pairwise_lt_range (n := n)).imp_of_mem ?_
        intro a b ha hb hab
        obtain ⟨v, hv⟩ := hf a (by simpa using ha)
        obtain ⟨u, hu⟩ := hf b (by simpa using hb)
        unfold Ahead
        rw [hv, hu, flatRow_len, flatRow_len]
        omega
      · simp at ha hb
        subst hb
        obtain ⟨v, hv⟩ := hf a ha
        unfold Ahead
        rw [hv, h9, flatRow_len]
        simp
        omega
    · simp only [List.mem_append, List.mem_range, List.mem_singleton]
      constructor
      · rintro (hi | rfl)
        · refine ⟨by omega, ?_⟩
          obtain ⟨v, hv⟩ := hf i hi
          rw [hv, ← List.length_pos_iff, flatRow_len]; exact hw
        · exact ⟨by omega, by rw [h9]; simp⟩
      · rintro ⟨h1, h2⟩
        by_cases h3 : i < n
        · exact .inl h3
        · right
          by_cases h4 : i < 399
          · exact absurd (he i (by omega) h4) h2
          · omega
  refine ⟨hm, by rw [ho]; simp, (laid_all hm).blen.trans hl, ?_⟩
  have hF := flat_run hw hf (by omega) n (Nat.le_refl _)
  have hb := layOne_blen rows (List.range n) (start rows)
  unfold layS
  rw [if_pos hm, ho, List.foldl_append]
  generalize (List.range n).foldl (layOne rows) (start rows) = s at hF hb ⊢
  simp only [List.foldl_cons, List.foldl_nil]
  unfold layOne
  rw [h9]
  generalize leastFit s.2.1 [((999 : Int), (1 : Int))] = b
  have hb' : s.1.length = 400 := by
    rw [hb]
    show (List.replicate rows.length (0 : Int)).length = 400
    rw [List.length_replicate]; exact hl
  show (((setPad s.2.1 (b + 999) _).length : Nat) : Int) = max (1000 + (s.1.set 399 (b : Int)).getD 399 0) _
  rw [setPad_len, getD_set _ _ _ _ _ (by omega), if_pos rfl, hF.len]
  omega
end Go.Proofs.YtjeebcnjdhlcfaaDoor
