/- Rows laid in one another, without a program: what follows. -/
import Derived.Test.YtjeebcnjdhlcfaaDoorCombP2
namespace Go.Proofs.YtjeebcnjdhlcfaaDoor
set_option linter.unusedVariables false

/-- the first pair of a place: its value -/
def getS (row : List Pr) (k : Int) : Int × Bool := match row.find? (fun p => p.1 == k) with | some p => (p.2, true) | none => (0, false)
/-- what is told of a comb at a row and a place -/
def combGet (s : List Int × List Int × List Int) (i k : Int) : Int × Bool :=
  if i < 0 ∨ (s.1.length : Int) ≤ i ∨ k < 0 ∨ 999 < k then (0, false)
  else if (s.2.2.length : Int) ≤ s.1.getD i.toNat 0 + k ∨ s.2.1.getD (s.1.getD i.toNat 0 + k).toNat 0 ≠ i + 1 then (0, false)
  else (s.2.2.getD (s.1.getD i.toNat 0 + k).toNat 0, true)

theorem getS_some {row : List Pr} (h : rowMay row = true) {p : Pr} (hp : p ∈ row) : getS row p.1 = (p.2, true) := by
  unfold getS
  unfold rowMay at h
  rw [Bool.and_eq_true, decide_eq_true_eq] at h
  have hn := h.2
  clear h
  have : row.find? (fun q => q.1 == p.1) = some p := by
    induction row with
    | nil => exact absurd hp (by simp)
    | cons q r ih =>
      rw [List.map_cons, List.nodup_cons] at hn
      rcases List.mem_cons.1 hp with e | e
      · subst e; simp
      · rw [List.find?_cons_of_neg, ih e hn.2]
        simp only [beq_iff_eq]
        intro e2
        exact hn.1 (by rw [e2]; exact List.mem_map_of_mem e)
  rw [this]
theorem getS_none {row : List Pr} {k : Int} (h : ∀ p ∈ row, p.1 ≠ k) : getS row k = (0, false) := by
  unfold getS
  have : row.find? (fun q => q.1 == k) = none := by
    rw [List.find?_eq_none]
    intro p hp
    simpa using h p hp
  rw [this]

theorem get_laid {rows : List (List Pr)} (h : mayS rows = true) (i k : Int) : combGet (layS rows) i k = if 0 ≤ i ∧ i < rows.length then getS (rowAt rows i.toNat) k else (0, false) := by
  have H := laid_all h
  have ho := orderS_is rows
  generalize layS rows = s at H
  by_cases hi : 0 ≤ i ∧ i < rows.length
  · rw [if_pos hi]
    have hm := mayS_row h i.toNat (by omega)
    obtain ⟨_, hrg⟩ := nodup_nat hm
    have hbl := H.blen
    have hb0 := H.nonneg i.toNat
    unfold combGet
    by_cases hk : k < 0 ∨ 999 < k
    · rw [if_pos (by omega)]
      exact (getS_none (fun p hp => by have := hrg p hp; omega)).symm
    · rw [if_neg (by omega)]
      by_cases hp : ∃ p ∈ rowAt rows i.toNat, p.1 = k
      · obtain ⟨p, hp, rfl⟩ := hp
        have hid : i.toNat ∈ orderS rows := (ho.2 _).2 ⟨by omega, fun e => by rw [e] at hp; exact absurd hp (by simp)⟩
        obtain ⟨p1, p2, p3⟩ := H.pair _ hid p hp
        have e : (s.1.getD i.toNat 0 + p.1).toNat = (s.1.getD i.toNat 0).toNat + p.1.toNat := by omega
        rw [e, if_neg, p3, getS_some hm hp]
        rw [p2]
        have := H.len
        omega
      · rw [getS_none (fun p hp' e => hp ⟨p, hp', e⟩), if_pos]
        by_cases hc : s.2.1.getD (s.1.getD i.toNat 0 + k).toNat 0 = i + 1
        · exfalso
          obtain ⟨o, ho', q, hq, e1, e2⟩ := H.own _ (by rw [hc]; omega)
          have hoi : o = i.toNat := by omega
          subst hoi
          have := hrg q hq
          exact hp ⟨q, hq, by omega⟩
        · exact .inr hc
  · rw [if_neg hi]
    unfold combGet
    rw [if_pos]
    have := H.blen
    omega

/-- all pairs together -/
def allS (rows : List (List Pr)) : Nat := (rows.map List.length).sum
theorem sum_filter (f : Nat → Nat) (p : Nat → Bool) (h : ∀ i, p i = false → f i = 0) : ∀ l : List Nat, ((l.filter p).map f).sum = (l.map f).sum := by
  intro l
  induction l with
  | nil => rfl
  | cons a t ih =>
    rw [List.filter_cons]
    cases hp : p a with
    | true => simp [ih]
    | false => simp [ih, h a hp]
theorem map_range_getD {α : Type} (l : List α) (d : α) : (List.range l.length).map (fun i => l.getD i d) = l := by
  apply List.ext_getElem (by simp)
  intro i h1 h2
  simp at h1
  simp [List.getD_eq_getElem?_getD, List.getElem?_eq_getElem h1]
theorem sum_order (rows : List (List Pr)) : sumLen rows (orderS rows) = allS rows := by
  unfold sumLen allS
  have hp := (List.mergeSort_perm (fullS rows) (aheadB rows)).map (fun i => (rowAt rows i).length)
  rw [show orderS rows = (fullS rows).mergeSort (aheadB rows) from rfl, hp.sum_nat]
  unfold fullS
  rw [sum_filter (fun i => (rowAt rows i).length) _ (fun i hi => by simp at hi; simp [hi])]
  conv => rhs; rw [← map_range_getD rows []]
  rw [List.map_map]
  rfl

theorem count_laid {rows : List (List Pr)} (h : mayS rows = true) : cntS (layS rows).2.1 = allS rows := (laid_all h).count.trans (sum_order rows)

/-! ### in what order a row's pairs stand -/
theorem putRow_perm (i b : Nat) {r r' : List Pr} (h : ∀ p, p ∈ r ↔ p ∈ r') (hn : (r.map (·.1.toNat)).Nodup) (hn' : (r'.map (·.1.toNat)).Nodup) (s : List Int × List Int) (hs : s.1.length = s.2.length) : putRow i b r s = putRow i b r' s := by
  have H := putRow_is i b r s
  have H' := putRow_is i b r' s
  generalize putRow i b r s = t at H ⊢
  generalize putRow i b r' s = t' at H' ⊢
  have le1 : ∀ {r r' : List Pr} {t t' : List Int × List Int}, (∀ p, p ∈ r ↔ p ∈ r') → RowPut i b r s t → RowPut i b r' s t' → t.1.length ≤ t'.1.length := by
    intro r r' t t' h H H'
    rcases H.last with e | ⟨p, hp, e⟩
    · rw [e]; exact H'.mono
    · have := (H'.at1 p ((h p).1 hp)).2; omega
  have hl : t.1.length = t'.1.length := Nat.le_antisymm (le1 h H H') (le1 (fun p => (h p).symm) H' H)
  have e1 : t.1 = t'.1 := by
    refine getD_ext hl (fun j => ?_)
    by_cases hc : ∃ p ∈ r, j = b + p.1.toNat
    · obtain ⟨p, hp, rfl⟩ := hc
      rw [(H.at1 p hp).1, (H'.at1 p ((h p).1 hp)).1]
    · rw [(H.out j (fun p hp e => hc ⟨p, hp, e⟩)).1, (H'.out j (fun p hp e => hc ⟨p, (h p).2 hp, e⟩)).1]
  have e2 : t.2 = t'.2 := by
    refine getD_ext (by rw [← H.len hs, ← H'.len hs, hl]) (fun j => ?_)
    by_cases hc : ∃ p ∈ r, j = b + p.1.toNat
    · obtain ⟨p, hp, rfl⟩ := hc
      rw [H.val hn p hp, H'.val hn' p ((h p).1 hp)]
    · rw [(H.out j (fun p hp e => hc ⟨p, hp, e⟩)).2, (H'.out j (fun p hp e => hc ⟨p, (h p).2 hp, e⟩)).2]
  exact Prod.ext e1 e2
theorem fits_perm {r r' : List Pr} (h : ∀ p, p ∈ r ↔ p ∈ r') (chk : List Int) (b : Nat) : fitsB chk r b = fitsB chk r' b := by
  unfold fitsB
  rw [Bool.eq_iff_iff, List.all_eq_true, List.all_eq_true]
  exact ⟨fun H p hp => H p ((h p).2 hp), fun H p hp => H p ((h p).1 hp)⟩
theorem least_perm {r r' : List Pr} (h : ∀ p, p ∈ r ↔ p ∈ r') (chk : List Int) : leastFit chk r = leastFit chk r' := by
  unfold leastFit
  rw [funext (fits_perm h chk)]
theorem rowMay_perm {r r' : List Pr} (h : r.Perm r') : rowMay r = rowMay r' := by
  unfold rowMay
  congr 1
  · rw [Bool.eq_iff_iff, List.all_eq_true, List.all_eq_true]
    exact ⟨fun H p hp => H p (h.mem_iff.2 hp), fun H p hp => H p (h.mem_iff.1 hp)⟩
  · exact decide_eq_decide.2 (h.map (·.1)).nodup_iff
theorem lay_perm {rows rows' : List (List Pr)} (hl : rows.length = rows'.length) (hp : ∀ i, (rowAt rows i).Perm (rowAt rows' i)) : layS rows = layS rows' := by
  have hall : rows.all rowMay = rows'.all rowMay := by
    have key : ∀ {a b : List (List Pr)}, a.length = b.length → (∀ i, (rowAt a i).Perm (rowAt b i)) → a.all rowMay = true → b.all rowMay = true := by
      intro a b hl hp H
      rw [List.all_eq_true] at H ⊢
      intro r hr
      obtain ⟨i, hi, rfl⟩ := List.mem_iff_getElem.1 hr
      have h1 := H a[i] (List.getElem_mem _)
      have h2 := hp i
      unfold rowAt at h2
      rw [List.getD_eq_getElem?_getD, List.getD_eq_getElem?_getD, List.getElem?_eq_getElem hi, List.getElem?_eq_getElem (by omega)] at h2
      simp only [Option.getD_some] at h2
      rw [← rowMay_perm h2]; exact h1
    rw [Bool.eq_iff_iff]
    exact ⟨key hl hp, key hl.symm (fun i => (hp i).symm)⟩
  have hmay : mayS rows = mayS rows' := by
    unfold mayS; rw [hall, hl]
  unfold layS
  rw [← hmay]
  split
  · rename_i hm
    have ho : orderS rows = orderS rows' := by
      refine order_unique (orderS_is rows) ⟨?_, fun i => ?_⟩
      · refine (orderS_is rows').1.imp ?_
        intro a b hab
        unfold Ahead at hab ⊢
        rw [(hp a).length_eq, (hp b).length_eq]
        exact hab
      · rw [(orderS_is rows').2 i, hl]
        have e := (hp i).length_eq
        have : rowAt rows' i ≠ [] ↔ rowAt rows i ≠ [] := by
          rw [← List.length_pos_iff, ← List.length_pos_iff, e]
        rw [this]
    have hst : start rows = start rows' := by unfold start; rw [hl]
    rw [← ho, ← hst]
    have key : ∀ k, k ≤ (orderS rows).length → ((orderS rows).take k).foldl (layOne rows) (start rows) = ((orderS rows).take k).foldl (layOne rows') (start rows) := by
      intro k
      induction k with
      | zero => intro _; simp
      | succ k ih =>
        intro hk
        have hlt : k < (orderS rows).length := by omega
        have hL := laid_pre hm k (by omega)
        rw [List.take_succ_eq_append_getElem hlt, List.foldl_append, List.foldl_append, ← ih (by omega)]
        generalize ((orderS rows).take k).foldl (layOne rows) (start rows) = s at hL ⊢
        generalize (orderS rows)[k] = i
        have hin : ∀ p, p ∈ rowAt rows i ↔ p ∈ rowAt rows' i := fun p => (hp i).mem_iff
        have hrm : rowMay (rowAt rows i) = true := by
          by_cases hi : i < rows.length
          · exact mayS_row hm i hi
          · unfold rowAt; rw [getD_ge _ _ _ (by omega)]; rfl
        simp only [List.foldl_cons, List.foldl_nil]
        unfold layOne
        rw [least_perm hin, putRow_perm i _ hin (nodup_nat hrm).1 (nodup_nat (by rw [← rowMay_perm (hp i)]; exact hrm)).1 _ hL.len]
    have := key (orderS rows).length (Nat.le_refl _)
    rwa [List.take_length] at this
  · rfl
end Go.Proofs.YtjeebcnjdhlcfaaDoor
