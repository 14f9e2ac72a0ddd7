/- Two lists of lists that a call builds by appends, side by side. -/
import Derived.Test.YtijnekbhpdcemaaDoorGrGrow
namespace Go.Proofs.YtijnekbhpdcemaaDoor
open Go.RowKit
set_option linter.unusedVariables false
set_option linter.unusedSimpArgs false

/-- a value's block is none of another row's, nor of its rows' -/
structure Far (b : Option Nat) (v : Value) (vs : List Value) (n : Nat) : Prop where
  own : ∀ k, b = some k → v.ownBlock ≠ some k
  rows : ∀ i, i < n → ∀ k, b = some k → (vs.getD i undef).ownBlock ≠ some k
structure Two (W : World) (B : Nat) (x : Value) (vs : List Value) (C : List (List Int)) (y : Value) (us : List Value) (D : List (List Int)) : Prop where
  gx : GrowV W B x vs C
  gy : GrowV W B y us D
  fx : Far x.ownBlock y us D.length
  fy : Far y.ownBlock x vs C.length
theorem Two.nil (W : World) (B : Nat) : Two W B (.slice none 0 0) [] [] (.slice none 0 0) [] [] :=
  ⟨GrowV.nil _ _, GrowV.nil _ _, ⟨fun k h => (by cases h), fun i hi => absurd hi (Nat.not_lt_zero _)⟩, ⟨fun k h => (by cases h), fun i hi => absurd hi (Nat.not_lt_zero _)⟩⟩
theorem Two.swap {W : World} {B : Nat} {x : Value} {vs : List Value} {C : List (List Int)} {y : Value} {us : List Value} {D : List (List Int)} (h : Two W B x vs C y us D) : Two W B y us D x vs C := ⟨h.gy, h.gx, h.fy, h.fx⟩
theorem Two.below {W W' : World} {B : Nat} {x : Value} {vs : List Value} {C : List (List Int)} {y : Value} {us : List Value} {D : List (List Int)} (h : Two W B x vs C y us D) (hb : Below W.heap.size W W') : Two W' B x vs C y us D :=
  ⟨h.gx.below hb, h.gy.below hb, h.fx, h.fy⟩
theorem GrowV.other {W W' : World} {B : Nat} {v : Value} {vs : List Value} {C : List (List Int)} {row : Option Nat} (h : GrowV W B v vs C) (hg : W.grownBy W' row) (hf : Far row v vs C.length) : GrowV W' B v vs C := by
  refine ⟨h.own.kept hg ?_, fun i hi => ?_, fun i hi k hk => ⟨Nat.lt_of_lt_of_le (h.apart i hi k hk).1 hg.size, (h.apart i hi k hk).2⟩⟩
  · cases hv : v.ownBlock with
    | none => exact .inl rfl
    | some k => right; intro e; exact hf.own k e.symm hv
  · obtain ⟨a, c, e, h1, h2, h3, h4⟩ := h.rows i hi
    refine ⟨a, c, e, h1, h2, h3, fun j hj => ?_⟩
    obtain ⟨b, off, ha, hcell⟩ := h4 j hj
    refine ⟨b, off, ha, hg.cell hcell (fun e2 => ?_)⟩
    exact hf.rows i hi b e2.symm (by rw [e, ha]; rfl)
theorem Two.push {W W' : World} {B : Nat} {x x' r : Value} {vs : List Value} {C : List (List Int)} {y : Value} {us : List Value} {D : List (List Int)} {l : List Int} (h : Two W B x vs C y us D)
    (ho : W'.ownsRow B 22 1 x' (C.length + 1) (vs ++ [r])) (hg : W.grownBy W' x.ownBlock) (hl : x'.ownBlock = x.ownBlock ∨ x'.ownBlock = some W.heap.size) (hr : IntsV W r l)
    (hrk : ∀ k, r.ownBlock = some k → k < W.heap.size ∧ x.ownBlock ≠ some k ∧ y.ownBlock ≠ some k) : Two W' B x' (vs ++ [r]) (C ++ [l]) y us D := by
  have hy : GrowV W' B y us D := h.gy.other hg h.fx
  refine ⟨h.gx.push ho hg hl hr (fun k hk => ⟨(hrk k hk).1, (hrk k hk).2.1⟩), hy, ⟨fun k hk e => ?_, fun i hi k hk e => ?_⟩, ⟨fun k hk e => ?_, fun i hi k hk e => ?_⟩⟩
  · rcases hl with e2 | e2
    · exact h.fx.own k (by rw [← e2]; exact hk) e
    · rw [e2] at hk; cases hk
      have := (h.gy.own.lt _ e).2
      omega
  · rcases hl with e2 | e2
    · exact h.fx.rows i hi k (by rw [← e2]; exact hk) e
    · rw [e2] at hk; cases hk
      have := (h.gy.apart i hi _ e).1
      omega
  · rcases hl with e2 | e2
    · exact h.fy.own k hk (by rw [← e2]; exact e)
    · rw [e2] at e; cases e
      have := (h.gy.own.lt _ hk).2
      omega
  · have hi' : i < C.length + 1 := by simpa using hi
    rw [getD_snoc vs r undef i (by rw [h.gx.len]; exact hi'), h.gx.len] at e
    by_cases hc : i < C.length
    · rw [if_pos hc] at e; exact h.fy.rows i hc k hk e
    · rw [if_neg hc] at e; exact (hrk k e).2.2 hk

end Go.Proofs.YtijnekbhpdcemaaDoor
