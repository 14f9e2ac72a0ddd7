/- Lists of lists that the call builds by appends. -/
import Derived.Test.YtijnekbhpdcemaaDoorGrWay
namespace Go.Proofs.YtijnekbhpdcemaaDoor
open Go.RowKit
set_option linter.unusedVariables false
set_option linter.unusedSimpArgs false

structure GrowV (W : World) (B : Nat) (v : Value) (vs : List Value) (C : List (List Int)) : Prop where
  own : W.ownsRow B 22 1 v C.length vs
  rows : ∀ i, i < C.length → IntsV W (vs.getD i undef) (C.getD i [])
  apart : ∀ i, i < C.length → ∀ k, (vs.getD i undef).ownBlock = some k → k < W.heap.size ∧ v.ownBlock ≠ some k
theorem GrowV.nil (W : World) (B : Nat) : GrowV W B (.slice none 0 0) [] [] :=
  ⟨World.ownsRow_nil _ _ _ _, fun i hi => absurd hi (Nat.not_lt_zero _), fun i hi => absurd hi (Nat.not_lt_zero _)⟩
theorem GrowV.below {W W' : World} {B : Nat} {v : Value} {vs : List Value} {C : List (List Int)} (h : GrowV W B v vs C) (hb : Below W.heap.size W W') : GrowV W' B v vs C :=
  ⟨owns_block h.own (fun k hk => hb.block k (h.own.lt k hk).2), fun i hi => (h.rows i hi).below hb, fun i hi k hk => ⟨Nat.lt_of_lt_of_le (h.apart i hi k hk).1 hb.size, (h.apart i hi k hk).2⟩⟩
theorem GrowV.len {W : World} {B : Nat} {v : Value} {vs : List Value} {C : List (List Int)} (h : GrowV W B v vs C) : vs.length = C.length := by have := h.own.1; omega
theorem GrowV.toRows {W : World} {B : Nat} {v : Value} {vs : List Value} {C : List (List Int)} (h : GrowV W B v vs C) : RowsV W v C := RowsV.of_owns h.own h.rows
theorem getD_snoc {α : Type} (l : List α) (x z : α) (i : Nat) (hi : i < l.length + 1) : (l ++ [x]).getD i z = if i < l.length then l.getD i z else x := by
  by_cases h : i < l.length
  · rw [if_pos h, List.getD_eq_getElem?_getD, List.getElem?_append_left h, ← List.getD_eq_getElem?_getD]
  · rw [if_neg h, List.getD_eq_getElem?_getD, List.getElem?_append_right (by omega), show i - l.length = 0 by omega]; rfl
theorem GrowV.push {W W' : World} {B : Nat} {v v' x : Value} {vs : List Value} {C : List (List Int)} {l : List Int} (h : GrowV W B v vs C) (ho : W'.ownsRow B 22 1 v' (C.length + 1) (vs ++ [x])) (hg : W.grownBy W' v.ownBlock)
    (hl : v'.ownBlock = v.ownBlock ∨ v'.ownBlock = some W.heap.size) (hx : IntsV W x l) (hxk : ∀ k, x.ownBlock = some k → k < W.heap.size ∧ v.ownBlock ≠ some k) : GrowV W' B v' (vs ++ [x]) (C ++ [l]) := by
  have hvl := h.len
  have key : ∀ y m, IntsV W y m → (∀ k, y.ownBlock = some k → k < W.heap.size ∧ v.ownBlock ≠ some k) → IntsV W' y m ∧ ∀ k, y.ownBlock = some k → k < W'.heap.size ∧ v'.ownBlock ≠ some k := fun y m hy hyk => by
    refine ⟨?_, fun k hk => ?_⟩
    · obtain ⟨a, c, rfl, h1, h2, h3, h4⟩ := hy
      refine ⟨a, c, rfl, h1, h2, h3, fun i hi => ?_⟩
      obtain ⟨b, off, ha, hcell⟩ := h4 i hi
      exact ⟨b, off, ha, hg.cell hcell (fun e => (hyk b (by rw [ha]; rfl)).2 e.symm)⟩
    · obtain ⟨h1, h2⟩ := hyk k hk
      refine ⟨Nat.lt_of_lt_of_le h1 hg.size, ?_⟩
      rcases hl with e | e
      · rw [e]; exact h2
      · rw [e]; intro e2; cases e2; omega
  have e1 : ∀ i, i < (C ++ [l]).length → IntsV W ((vs ++ [x]).getD i undef) ((C ++ [l]).getD i []) ∧ ∀ k, ((vs ++ [x]).getD i undef).ownBlock = some k → k < W.heap.size ∧ v.ownBlock ≠ some k := fun i hi => by
    have hi' : i < C.length + 1 := by simpa using hi
    rw [getD_snoc vs x undef i (by omega), getD_snoc C l [] i hi', hvl]
    by_cases e : i < C.length
    · rw [if_pos e, if_pos e]; exact ⟨h.rows i e, h.apart i e⟩
    · rw [if_neg e, if_neg e]; exact ⟨hx, hxk⟩
  refine ⟨?_, fun i hi => (key _ _ (e1 i hi).1 (e1 i hi).2).1, fun i hi => (key _ _ (e1 i hi).1 (e1 i hi).2).2⟩
  have : (C ++ [l]).length = C.length + 1 := by simp
  rw [this]; exact ho
/-- the cell of a row -/
theorem GrowV.cell {W : World} {B : Nat} {v : Value} {vs : List Value} {C : List (List Int)} (h : GrowV W B v vs C) {i : Nat} (hi : i < C.length) : ∃ g cap, v = .slice (some ⟨g, 0, none⟩) C.length cap ∧ W.cell? ⟨g, i, none⟩ = some (vs.getD i undef) := by
  obtain ⟨g, cap, rfl, _⟩ := owns_at h.own (by omega)
  refine ⟨g, cap, rfl, ?_⟩
  rw [h.own.cellAt i (by omega), List.getD_eq_getElem?_getD, List.getElem?_eq_getElem (by have := h.len; omega)]; rfl

end Go.Proofs.YtijnekbhpdcemaaDoor
