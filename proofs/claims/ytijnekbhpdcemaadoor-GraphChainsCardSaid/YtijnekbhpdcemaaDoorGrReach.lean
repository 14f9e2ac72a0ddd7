/- What is reached: the state of the document's Reach. -/
import Derived.Test.YtijnekbhpdcemaaDoorGrEdge
namespace Go.Proofs.YtijnekbhpdcemaaDoor
open Go.RowKit
set_option linter.unusedVariables false
set_option linter.unusedSimpArgs false

/-- the state of the document's Reach: between two nodes; with `i` under way, its first `k` successors looked at -/
structure RState (L : List (List Int)) (a : Int) (out todo : List Int) : Prop where
  rise : Rising out
  here : a ∈ out
  node : ∀ i ∈ out, NodeOf L i
  reach : ∀ i ∈ out, Reaches L a i
  wait : ∀ i ∈ todo, i ∈ out
  done : ∀ i ∈ out, i ∈ todo ∨ ∀ j, Edge L i j → j ∈ out
structure RIn (L : List (List Int)) (a i : Int) (k : Nat) (out todo : List Int) : Prop where
  rise : Rising out
  here : a ∈ out
  node : ∀ x ∈ out, NodeOf L x
  reach : ∀ x ∈ out, Reaches L a x
  wait : ∀ x ∈ todo, x ∈ out
  this : i ∈ out
  done : ∀ x ∈ out, x = i ∨ x ∈ todo ∨ ∀ j, Edge L x j → j ∈ out
  seen : ∀ m, m < k → ∀ j, (L.getD i.toNat []).getD m 0 = j → NodeOf L j → j ∈ out

theorem RState.take {L : List (List Int)} {a i : Int} {out todo : List Int} (h : RState L a out (i :: todo)) : RIn L a i 0 out todo where
  rise := h.rise
  here := h.here
  node := h.node
  reach := h.reach
  wait := fun x hx => h.wait x (List.mem_cons_of_mem _ hx)
  this := h.wait i (List.mem_cons_self ..)
  done := fun x hx => by
    rcases h.done x hx with h1 | h1
    · rcases List.mem_cons.1 h1 with rfl | h1
      · exact .inl rfl
      · exact .inr (.inl h1)
    · exact .inr (.inr h1)
  seen := fun m hm => absurd hm (Nat.not_lt_zero _)
theorem RIn.skip {L : List (List Int)} {a i : Int} {k : Nat} {out todo : List Int} (h : RIn L a i k out todo) (hs : ∀ j, (L.getD i.toNat []).getD k 0 = j → NodeOf L j → j ∈ out) : RIn L a i (k + 1) out todo where
  rise := h.rise
  here := h.here
  node := h.node
  reach := h.reach
  wait := h.wait
  this := h.this
  done := h.done
  seen := fun m hm j hj h1 => by
    by_cases e : m = k
    · subst e; exact hs j hj h1
    · exact h.seen m (by omega) j hj h1
theorem RIn.add {L : List (List Int)} {a i j : Int} {k : Nat} {out todo r : List Int} (h : RIn L a i k out todo) (hk : k < (L.getD i.toNat []).length) (hj : (L.getD i.toNat []).getD k 0 = j) (h1 : NodeOf L j) (hp : PutIs out j r) : RIn L a i (k + 1) r (todo ++ [j]) := by
  obtain ⟨p1, p2, _⟩ := put_rising h.rise hp
  have he : Edge L i j := edge_at hk hj h1
  exact {
    rise := p1
    here := (p2 _).2 (.inr h.here)
    node := fun x hx => by
      rcases (p2 x).1 hx with rfl | hx
      · exact h1
      · exact h.node x hx
    reach := fun x hx => by
      rcases (p2 x).1 hx with rfl | hx
      · exact .step (h.reach i h.this) he
      · exact h.reach x hx
    wait := fun x hx => by
      rcases List.mem_append.1 hx with hx | hx
      · exact (p2 x).2 (.inr (h.wait x hx))
      · simp at hx; subst hx; exact (p2 x).2 (.inl rfl)
    this := (p2 _).2 (.inr h.this)
    done := fun x hx => by
      rcases (p2 x).1 hx with rfl | hx
      · exact .inr (.inl (by simp))
      · rcases h.done x hx with e | e | e
        · exact .inl e
        · exact .inr (.inl (List.mem_append_left _ e))
        · exact .inr (.inr (fun y hy => (p2 y).2 (.inr (e y hy))))
    seen := fun m hm j' hj' g1 => by
      by_cases e : m = k
      · subst e; rw [hj] at hj'; subst hj'; exact (p2 _).2 (.inl rfl)
      · exact (p2 _).2 (.inr (h.seen m (by omega) j' hj' g1)) }
theorem RIn.fin {L : List (List Int)} {a i : Int} {k : Nat} {out todo : List Int} (h : RIn L a i k out todo) (hk : (L.getD i.toNat []).length ≤ k) : RState L a out todo where
  rise := h.rise
  here := h.here
  node := h.node
  reach := h.reach
  wait := h.wait
  done := fun x hx => by
    rcases h.done x hx with rfl | e | e
    · refine .inr (fun j hj => ?_)
      obtain ⟨m, hm, e⟩ := edge_get hj
      exact h.seen m (by omega) j e hj.2
    · exact .inl e
    · exact .inr e
theorem RState.fin {L : List (List Int)} {a : Int} {out : List Int} (h : RState L a out []) (j : Int) : j ∈ out ↔ Reaches L a j :=
  reaches_closed h.here h.reach (fun i hi => by
    rcases h.done i hi with e | e
    · cases e
    · exact e) j
theorem RState.start {L : List (List Int)} {a : Int} (h1 : NodeOf L a) : RState L a [a] [a] where
  rise := List.pairwise_singleton _ _
  here := by simp
  node := fun i hi => by simp at hi; subst hi; exact h1
  reach := fun i hi => by simp at hi; subst hi; exact .here
  wait := fun i hi => hi
  done := fun i hi => .inl hi

/-- a rising list of nodes is no longer than there are nodes -/
theorem rising_len : ∀ (l : List Int) (lo n : Int), Rising l → (∀ x ∈ l, lo ≤ x ∧ x < n) → (l.length : Int) ≤ max 0 (n - lo)
  | [], lo, n, _, _ => by simp; omega
  | x :: l, lo, n, hr, hx => by
    have hr' := List.pairwise_cons.1 hr
    have h1 := hx x (by simp)
    have := rising_len l (x + 1) n hr'.2 (fun y hy => ⟨by have := hr'.1 y hy; omega, (hx y (by simp [hy])).2⟩)
    simp only [List.length_cons]; omega
theorem RIn.len {L : List (List Int)} {a i : Int} {k : Nat} {out todo : List Int} (h : RIn L a i k out todo) : out.length ≤ L.length := by
  have := rising_len out 0 L.length h.rise h.node; omega
theorem RState.len {L : List (List Int)} {a : Int} {out todo : List Int} (h : RState L a out todo) : out.length ≤ L.length := by
  have := rising_len out 0 L.length h.rise h.node; omega

end Go.Proofs.YtijnekbhpdcemaaDoor
