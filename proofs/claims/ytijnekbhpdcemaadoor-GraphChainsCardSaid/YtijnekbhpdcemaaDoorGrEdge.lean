/- A relation's successors; what is reached. -/
import Derived.Test.YtijnekbhpdcemaaDoorRising
namespace Go.Proofs.YtijnekbhpdcemaaDoor
open Go.RowKit
set_option linter.unusedVariables false
set_option linter.unusedSimpArgs false

abbrev NodeOf (L : List (List Int)) (j : Int) : Prop := 0 ≤ j ∧ j < (L.length : Int)
/-- a node's successor; numbers that are no nodes are none -/
def Edge (L : List (List Int)) (i j : Int) : Prop := j ∈ L.getD i.toNat [] ∧ NodeOf L j
inductive Reaches (L : List (List Int)) (a : Int) : Int → Prop
  | here : Reaches L a a
  | step {i j : Int} (h : Reaches L a i) (e : Edge L i j) : Reaches L a j
theorem Reaches.trans {L : List (List Int)} {a b c : Int} (h1 : Reaches L a b) (h2 : Reaches L b c) : Reaches L a c := by
  induction h2 with
  | here => exact h1
  | step _ e ih => exact .step ih e
theorem Reaches.one {L : List (List Int)} {a b : Int} (h : Edge L a b) : Reaches L a b := .step .here h
theorem Reaches.node {L : List (List Int)} {a b : Int} (h : Reaches L a b) (ha : NodeOf L a) : NodeOf L b := by
  cases h with
  | here => exact ha
  | step _ e => exact e.2

theorem reaches_closed {L : List (List Int)} {a : Int} {out : List Int} (ha : a ∈ out) (h1 : ∀ i ∈ out, Reaches L a i) (h2 : ∀ i ∈ out, ∀ j, Edge L i j → j ∈ out) (j : Int) : j ∈ out ↔ Reaches L a j := by
  constructor
  · exact h1 j
  · intro h
    induction h with
    | here => exact ha
    | step _ e ih => exact h2 _ ih _ e

theorem edge_at {L : List (List Int)} {i j : Int} {k : Nat} (hk : k < (L.getD i.toNat []).length) (hj : (L.getD i.toNat []).getD k 0 = j) (hn : NodeOf L j) : Edge L i j := by
  refine ⟨?_, hn⟩
  rw [← hj]
  exact get_mem hk
theorem edge_get {L : List (List Int)} {i j : Int} (h : Edge L i j) : ∃ k, k < (L.getD i.toNat []).length ∧ (L.getD i.toNat []).getD k 0 = j := mem_get h.1

end Go.Proofs.YtijnekbhpdcemaaDoor
