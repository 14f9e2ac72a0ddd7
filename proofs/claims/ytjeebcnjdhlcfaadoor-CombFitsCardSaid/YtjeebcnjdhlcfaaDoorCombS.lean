/- The library's insertion sort of rising numbers by another order leaves equals as they stood; without a program. -/
import Derived.Test.YtjeebcnjdhlcfaaDoorCombP2
import Derived.Sort.LotA
namespace Go.Proofs.YtjeebcnjdhlcfaaDoor
open Go.Sort
set_option linter.unusedVariables false

section
variable {n : Nat} (lt lt2 : Fin (n + 1) → Fin (n + 1) → Bool)

/-- each place from i on is above all that stand ahead of it -/
def Above (i : Nat) (d : Array (Fin (n + 1))) : Prop := ∀ p q, p < q → i ≤ q → q < d.size → (d[p]!).val < (d[q]!).val

theorem inner_eq (he : ∀ x y : Fin (n + 1), y.val < x.val → lt x y = lt2 x y) (a i : Nat) : ∀ (j : Nat) (d : Array (Fin (n + 1))), j ≤ i → i < d.size → Above (i + 1) d → (∀ p, p < j → (d[p]!).val < (d[j]!).val) →
    insInner lt a j d = insInner lt2 a j d ∧ Above (i + 1) (insInner lt a j d) ∧ (insInner lt a j d).size = d.size := by
  intro j
  induction j with
  | zero => intro d _ _ h _; exact ⟨rfl, h, rfl⟩
  | succ j ih =>
    intro d hj hi h hp
    have e := he d[j + 1]! d[j]! (hp j (by omega))
    unfold insInner
    rw [← e]
    by_cases hc : (decide (j + 1 > a) && lt d[j + 1]! d[j]!) = true
    · rw [if_pos hc, if_pos hc]
      have hsz : (swp d (j + 1) j).size = d.size := swp_size _ _ _
      have hget : ∀ k, k ≠ j + 1 → k ≠ j → (swp d (j + 1) j)[k]! = d[k]! := fun k h1 h2 => swp_other d _ _ k h1 h2
      have hl : (swp d (j + 1) j)[j + 1]! = d[j]! := swp_left d _ _ (by omega) (by omega)
      have hr : (swp d (j + 1) j)[j]! = d[j + 1]! := swp_right d _ _ (by omega)
      have h' : Above (i + 1) (swp d (j + 1) j) := fun p q hpq hq hqs => by
        rw [hget q (by omega) (by omega)]
        by_cases e1 : p = j + 1
        · subst e1; rw [hl]; exact h j q (by omega) hq (by omega)
        · by_cases e2 : p = j
          · subst e2; rw [hr]; exact h _ q (by omega) hq (by omega)
          · rw [hget p e1 e2]; exact h p q hpq hq (by omega)
      obtain ⟨r1, r2, r3⟩ := ih (swp d (j + 1) j) (by omega) (by omega) h' (fun p hp' => by
        rw [hr, hget p (by omega) (by omega)]; exact hp p (by omega))
      exact ⟨r1, r2, by rw [r3, hsz]⟩
    · rw [if_neg hc, if_neg hc]; exact ⟨rfl, h, rfl⟩

theorem outer_eq (he : ∀ x y : Fin (n + 1), y.val < x.val → lt x y = lt2 x y) (a b : Nat) : ∀ (m i : Nat) (d : Array (Fin (n + 1))), b - i = m → b ≤ d.size → Above i d → insOuter lt a b i d = insOuter lt2 a b i d := by
  intro m
  induction m with
  | zero =>
    intro i d hm hb h
    rw [insOuter, if_neg (by omega)]
    conv => rhs; rw [insOuter, if_neg (by omega)]
  | succ m ih =>
    intro i d hm hb h
    rw [insOuter, if_pos (by omega)]
    conv => rhs; rw [insOuter, if_pos (by omega)]
    obtain ⟨r1, r2, r3⟩ := inner_eq lt lt2 he a i i d (Nat.le_refl _) (by omega) (fun p q h1 h2 h3 => h p q h1 (by omega) h3) (fun p hp => h p i hp (Nat.le_refl _) (by omega))
    rw [← r1]
    exact ih (i + 1) _ (by omega) (by omega) r2

theorem ins_eq (he : ∀ x y : Fin (n + 1), y.val < x.val → lt x y = lt2 x y) (d : Array (Fin (n + 1))) (hd : ∀ p q, p < q → q < d.size → (d[p]!).val < (d[q]!).val) : insertionSort lt d 0 d.size = insertionSort lt2 d 0 d.size := by
  unfold insertionSort
  exact outer_eq lt lt2 he 0 d.size _ _ d rfl (Nat.le_refl _) (fun p q h1 _ h3 => hd p q h1 h3)
end

/-- the closure's answer -/
def cmpLen (rows : List (List Pr)) (x y : Nat) : Int := if (rowAt rows y).length < (rowAt rows x).length then -1 else if (rowAt rows x).length < (rowAt rows y).length then 1 else 0
instance (rows : List (List Pr)) (i j : Nat) : Decidable (Ahead rows i j) := by unfold Ahead; infer_instance
def ltA (rows : List (List Pr)) (n : Nat) (x y : Fin (n + 1)) : Bool := decide (Ahead rows x.val y.val)

theorem ltA_swo (rows : List (List Pr)) (n : Nat) : SWO (ltA rows n) := by
  refine ⟨fun x => ?_, fun x y z h1 h2 => ?_, fun x y z h1 h2 => ?_⟩
  · unfold ltA; exact decide_eq_false (ahead_irr _ _)
  · unfold ltA at *
    rw [decide_eq_true_eq] at *
    exact ahead_trans _ _ _ _ h1 h2
  · unfold ltA at *
    rw [decide_eq_false_iff_not] at *
    unfold Ahead at *
    omega

/-- the rows that have pairs, sorted by the library -/
theorem sort_order (rows : List (List Pr)) (n : Nat) (hn : rows.length = n + 1) (lt : Fin (n + 1) → Fin (n + 1) → Bool) (hlt : ∀ x y, lt x y = decide (cmpLen rows x.val y.val < 0)) (d : Array (Fin (n + 1))) (hd : d.toList.map (·.val) = fullS rows) :
    (insertionSort lt d 0 d.size).toList.map (·.val) = orderS rows := by
  have hpw : (d.toList.map (·.val)).Pairwise (· < ·) := by rw [hd]; exact List.Pairwise.filter _ List.pairwise_lt_range
  have hinc : ∀ p q, p < q → q < d.size → (d[p]!).val < (d[q]!).val := fun p q hpq hq => by
    have := List.pairwise_iff_getElem.1 hpw p q (by simp; omega) (by simpa using hq) hpq
    simp only [List.getElem_map, Array.getElem_toList] at this
    rw [getElem!_pos d p (by omega), getElem!_pos d q hq]
    exact this
  have e := ins_eq lt (ltA rows n) (fun x y hxy => by
    rw [hlt]
    unfold ltA cmpLen
    rw [Bool.eq_iff_iff, decide_eq_true_eq, decide_eq_true_eq]
    unfold Ahead
    split
    · constructor <;> intro h <;> omega
    · split <;> constructor <;> intro h <;> omega) d hinc
  rw [e]
  obtain ⟨⟨h1, _, h3⟩, hs⟩ := insertionSort_holds (lt := ltA rows n) (ltA_swo rows n) d 0 d.size (Nat.zero_le _) (Nat.le_refl _)
  generalize insertionSort (ltA rows n) d 0 d.size = d' at h1 h3 hs
  have hperm : d'.toList.Perm d.toList := by
    have := h3
    simp only [Array.toList_extract, List.extract_eq_take_drop, Nat.sub_zero, List.drop_zero] at this
    rwa [List.take_of_length_le (by simp; omega), List.take_of_length_le (by simp)] at this
  refine order_unique ⟨?_, fun i => ?_⟩ (orderS_is rows)
  · rw [List.pairwise_map]
    have hnd : d'.toList.Nodup := by
      refine hperm.nodup_iff.2 ?_
      have h4 : (d.toList.map (·.val)).Nodup := hpw.imp (fun h => by omega)
      exact List.Pairwise.of_map _ (fun a b hab e => hab (by rw [e])) h4
    rw [List.pairwise_iff_getElem]
    intro p q hp hq hpq
    simp only [Array.length_toList] at hp hq
    have h5 := hs p q (Nat.zero_le _) hpq (by omega)
    have h6 := List.pairwise_iff_getElem.1 hnd p q (by simpa using hp) (by simpa using hq) hpq
    simp only [Array.getElem_toList] at h6 ⊢
    rw [getElem!_pos d' q hq, getElem!_pos d' p hp] at h5
    unfold ltA at h5
    rw [decide_eq_false_iff_not] at h5
    rcases ahead_total rows d'[p].val d'[q].val with h | h | h
    · exact h
    · exact absurd (Fin.ext h) h6
    · exact absurd h h5
  · rw [(hperm.map (·.val)).mem_iff, hd, mem_fullS]
end Go.Proofs.YtjeebcnjdhlcfaaDoor
