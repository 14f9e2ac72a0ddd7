/- Rising lists. -/
import Derived.Test.YtijnekbhpdcemaaDoorPut
namespace Go.Proofs.YtijnekbhpdcemaaDoor
open Go.RowKit
set_option linter.unusedVariables false

abbrev Rising (l : List Int) : Prop := l.Pairwise (· < ·)

theorem rising_ext : ∀ {a b : List Int}, Rising a → Rising b → (∀ y, y ∈ a ↔ y ∈ b) → a = b
  | [], [], _, _, _ => rfl
  | [], x :: b, _, _, h => absurd ((h x).2 (by simp)) (by simp)
  | x :: a, [], _, _, h => absurd ((h x).1 (by simp)) (by simp)
  | x :: a, y :: b, ha, hb, h => by
    have ha' := List.pairwise_cons.1 ha
    have hb' := List.pairwise_cons.1 hb
    have hxy : x = y := by
      rcases List.mem_cons.1 ((h x).1 (by simp)) with e | e
      · exact e
      · rcases List.mem_cons.1 ((h y).2 (by simp)) with e2 | e2
        · exact e2.symm
        · have := hb'.1 x e; have := ha'.1 y e2; omega
    subst hxy
    congr 1
    refine rising_ext ha'.2 hb'.2 (fun z => ?_)
    constructor
    · intro hz
      rcases List.mem_cons.1 ((h z).1 (by simp [hz])) with e | e
      · have := ha'.1 z hz; omega
      · exact e
    · intro hz
      rcases List.mem_cons.1 ((h z).2 (by simp [hz])) with e | e
      · have := hb'.1 z hz; omega
      · exact e

theorem rising_get {l : List Int} (h : Rising l) {i j : Nat} (hij : i < j) (hj : j < l.length) : l.getD i 0 < l.getD j 0 := by
  rw [List.getD_eq_getElem?_getD, List.getD_eq_getElem?_getD, List.getElem?_eq_getElem hj, List.getElem?_eq_getElem (by omega)]
  exact List.pairwise_iff_getElem.1 h i j (by omega) hj hij

theorem mem_get {l : List Int} {y : Int} (h : y ∈ l) : ∃ i, i < l.length ∧ l.getD i 0 = y := by
  obtain ⟨i, hi, rfl⟩ := List.getElem_of_mem h
  exact ⟨i, hi, by rw [List.getD_eq_getElem?_getD, List.getElem?_eq_getElem hi]; rfl⟩
theorem get_mem {l : List Int} {i : Nat} (h : i < l.length) : l.getD i 0 ∈ l := by
  rw [List.getD_eq_getElem?_getD, List.getElem?_eq_getElem h]; exact List.getElem_mem h

theorem mem_take {l : List Int} {k : Nat} {y : Int} (h : y ∈ l.take k) : ∃ i, i < k ∧ i < l.length ∧ l.getD i 0 = y := by
  obtain ⟨i, hi, he⟩ := mem_get h
  have h2 := hi
  rw [List.length_take] at h2
  refine ⟨i, by omega, by omega, ?_⟩
  rw [← he, List.getD_eq_getElem?_getD, List.getD_eq_getElem?_getD, List.getElem?_take, if_pos (by omega)]
theorem mem_drop {l : List Int} {k : Nat} {y : Int} (h : y ∈ l.drop k) : ∃ i, k ≤ i ∧ i < l.length ∧ l.getD i 0 = y := by
  obtain ⟨i, hi, he⟩ := mem_get h
  have h2 := hi
  rw [List.length_drop] at h2
  refine ⟨k + i, by omega, by omega, ?_⟩
  rw [← he, List.getD_eq_getElem?_getD, List.getD_eq_getElem?_getD, List.getElem?_drop]

theorem put_rising {l r : List Int} {x : Int} (hl : Rising l) (h : PutIs l x r) : Rising r ∧ (∀ y, y ∈ r ↔ y = x ∨ y ∈ l) ∧ r.length ≤ l.length + 1 := by
  obtain ⟨k, hk, hgt, hle, h⟩ := h
  rcases h with ⟨hk0, he, rfl⟩ | ⟨hne, rfl⟩
  · refine ⟨hl, fun y => ⟨fun h => .inr h, ?_⟩, by omega⟩
    rintro (rfl | h)
    · rw [← he]; exact get_mem (by omega)
    · exact h
  · refine ⟨?_, ?_, by simp; omega⟩
    · rw [Rising, List.pairwise_append]
      refine ⟨hl.sublist (List.take_sublist _ _), ?_, ?_⟩
      · rw [List.pairwise_cons]
        refine ⟨fun y hy => ?_, hl.sublist (List.drop_sublist _ _)⟩
        obtain ⟨i, hi, hi2, rfl⟩ := mem_drop hy
        exact hgt i hi hi2
      · intro a ha b hb
        obtain ⟨i, hi, hi2, rfl⟩ := mem_take ha
        have hax : l.getD i 0 < x := by
          rcases hle with rfl | hle
          · omega
          · have hlt : l.getD (k - 1) 0 < x := by
              rcases hne with rfl | hne
              · omega
              · omega
            by_cases e : i = k - 1
            · rw [e]; exact hlt
            · have := rising_get hl (show i < k - 1 by omega) (by omega); omega
        rcases List.mem_cons.1 hb with rfl | hb
        · exact hax
        · obtain ⟨j, hj, hj2, rfl⟩ := mem_drop hb
          have := hgt j hj hj2; omega
    · intro y
      have := List.take_append_drop k l
      constructor
      · intro hy
        rcases List.mem_append.1 hy with h | h
        · exact .inr (List.mem_of_mem_take h)
        · rcases List.mem_cons.1 h with h | h
          · exact .inl h
          · exact .inr (List.mem_of_mem_drop h)
      · rintro (rfl | h)
        · simp
        · rw [← this] at h
          rcases List.mem_append.1 h with h | h
          · exact List.mem_append.2 (.inl h)
          · exact List.mem_append.2 (.inr (by simp [h]))

end Go.Proofs.YtijnekbhpdcemaaDoor
