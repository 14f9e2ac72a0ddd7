/- What came in, read as lists: slices of whatever, one in the other. -/
import Derived.Test.YtjeebcnjdhlcfaaDoorFrame
import Derived.Test.YtjeebcnjdhlcfaaDoorShape
import Derived.Deep.Slices
namespace Go.Proofs.YtjeebcnjdhlcfaaDoor
open Go.ChangeShapes Go.WideShapes Go.ChangeAt Go.WideMaps Go.WideElems Go.RowKit Go.Deep

section
variable {H : Type} {enc : TypeId × Value → H} {P : Program} {W : World} {base : Nat} {sp : Nat → Bool} {held : Bool}
/-- a slice whose elements read as R -/
theorem list_of_trod {α : Type} [Inhabited α] {R : World → List Value → α → Prop} {Q : α → Prop} {T E : TypeId} {size : Nat} (hT : P.underlying T = some (.slice E)) (hc : P.cellsOf E = size) (hs : 0 < size)
    (hx : ∀ n cs x, DataW.trod enc P W base sp held n E cs = some x → ∃ y : α, R W cs y ∧ Q y) {fuel : Nat} {cs : List Value} {x : DataW H × List MemPlace} (h : DataW.trod enc P W base sp held fuel T cs = some x) :
    ∃ v l, cs = [v] ∧ ListV size R W v l ∧ ∀ y ∈ l, Q y := by
  rcases open_slice hT h with ⟨hcs, _⟩ | ⟨a, n, c, m, k, D, Pl, hcs, _, hl, hm, hmm, _, hi⟩
  · exact ⟨_, [], hcs, ListV.nil _ _ _, fun y hy => absurd hy (by simp)⟩
  · have hlm : n ≤ m := by rw [hmm]; split <;> omega
    rw [hc] at hi
    have hp : ∀ i, ∃ y : α, i < n → ∃ cs', W.cells? base (a.add (i * size)) size = some cs' ∧ R W cs' y ∧ Q y := fun i => by
      by_cases hlt : i < n
      · obtain ⟨cs', h1, h2⟩ := hi i (by omega)
        obtain ⟨y, h3, h4⟩ := hx _ _ _ h2
        exact ⟨y, fun _ => ⟨cs', h1, h3, h4⟩⟩
      · exact ⟨default, fun h => absurd h hlt⟩
    obtain ⟨f, hf⟩ := Classical.axiomOfChoice hp
    have hat : ∀ i, i < n → ∃ cs', cs'.length = size ∧ R W cs' (f i) ∧ Q (f i) ∧ ∀ j, j < size → W.cell? ((a.add (i * size)).add j) = cs'[j]? := fun i hin => by
      obtain ⟨cs', h1, h2, h3⟩ := hf i hin
      obtain ⟨_, hlen, hat⟩ := World.cells?_some h1
      exact ⟨cs', hlen, h2, h3, hat⟩
    have hspot : 0 < n → a.spot = none := fun h0 => by
      obtain ⟨cs', h1, _, _, h2⟩ := hat 0 h0
      have h3 := h2 0 hs
      rw [List.getElem?_eq_getElem (by omega)] at h3
      have e : (a.add (0 * size)).add 0 = a := by simp [Addr.add]
      rw [e] at h3
      exact World.cell?_spot h3
    refine ⟨_, (List.range n).map f, hcs, ⟨some a, c, by simp, by simpa using hl, by unfold maxLen at hm; omega, (fun h => by cases h), fun i y hy => ?_⟩, fun y hy => ?_⟩
    · have hin : i < n := by have := (List.getElem?_eq_some_iff.1 hy).1; simpa using this
      have e : y = f i := by
        rw [List.getElem?_map, List.getElem?_range hin] at hy
        simpa using hy.symm
      subst e
      have hs0 := hspot (by omega)
      obtain ⟨b, off, spot⟩ := a
      subst hs0
      obtain ⟨cs', h1, h2, _, h3⟩ := hat i hin
      refine ⟨b, off, cs', rfl, h1, h2, fun j hj => ?_⟩
      have h4 := h3 j hj
      rw [addr_add, addr_add] at h4
      rw [h4, List.getD_eq_getElem?_getD, List.getElem?_eq_getElem (by omega)]; rfl
    · obtain ⟨i, hi1, rfl⟩ := List.mem_map.1 hy
      obtain ⟨_, _, _, h3, _⟩ := hat i (by simpa using hi1)
      exact h3

theorem int_elem {E : TypeId} {k : IntKind} (hE : P.underlying E = some (.int k)) (n : Nat) (cs : List Value) (x : DataW H × List MemPlace) (h : DataW.trod enc P W base sp held n E cs = some x) : ∃ y : Int, cs = [.int k y] ∧ (Lit.int k y).wf = true := by
  obtain ⟨z, h1, _, h2⟩ := DataW.trod_int hE h
  exact ⟨z, h1, h2⟩
/-- a slice of ints: their bounds, too -/
theorem ints_elem {T E : TypeId} (hT : P.underlying T = some (.slice E)) (hE : P.underlying E = some (.int .i64)) (hc : P.cellsOf E = 1) (n : Nat) (cs : List Value) (x : DataW H × List MemPlace) (h : DataW.trod enc P W base sp held n T cs = some x) :
    ∃ l : List Int, rowR IntsV W cs l ∧ ∀ y ∈ l, (Lit.int .i64 y).wf = true := by
  obtain ⟨v, l, h1, h2, h3⟩ := list_of_trod (R := intR) (Q := fun y => (Lit.int .i64 y).wf = true) hT hc (by omega) (fun n cs x h => by
    obtain ⟨y, h1, h2⟩ := int_elem hE n cs x h
    exact ⟨y, h1, h2⟩) h
  exact ⟨l, ⟨v, h1, h2.ints⟩, h3⟩
theorem trod_one {T : TypeId} {v : Value} {d : DataW H} {p : List MemPlace} {α : Type} {S : Value → α → Prop} (h : DataW.Trod enc P W base sp held T v d p) (hv : v.cells = #[v]) (hx : ∀ n x, DataW.trod enc P W base sp held n T [v] = some x → ∃ l, S v l) : ∃ l, S v l := by
  obtain ⟨fuel, hf⟩ := h
  rw [hv] at hf
  exact hx _ _ hf
end
end Go.Proofs.YtjeebcnjdhlcfaaDoor
