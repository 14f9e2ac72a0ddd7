/- What the laws of comb are given. -/
import Derived.Test.YtjeebcnjdhlcfaaDoorFrameG
import Derived.Test.YtjeebcnjdhlcfaaDoorCombL1
namespace Go.Proofs.YtjeebcnjdhlcfaaDoor
open Go.ChangeShapes Go.WideShapes Go.ChangeAt Go.WideMaps Go.WideElems Go.RowKit Go.Deep

section
variable {H : Type} {enc : TypeId × Value → H} {P : Program} {W : World} {base : Nat} {sp : Nat → Bool} {held : Bool}
theorem rows_of_trod {T E F : TypeId} {a : Option Addr} {n c : Nat} {d : DataW H} {p : List MemPlace} (hT : P.underlying T = some (.slice E)) (hE : P.underlying E = some (.slice F)) (hF : P.underlying F = some (.int .i64)) (hcE : P.cellsOf E = 1) (hcF : P.cellsOf F = 1)
    (h : DataW.Trod enc P W base sp held T (.slice a n c) d p) : ∃ L, IRowsIn W (.slice a n c) L := by
  obtain ⟨fuel, hf⟩ := h
  obtain ⟨v, l, h1, h2, h3⟩ := list_of_trod (R := irowR) (Q := fun l => ∀ y ∈ l, (Lit.int .i64 y).wf = true) hT hcE (by omega) (fun n cs x h => ints_elem hE hF hcF n cs x h) hf
  have e : v = .slice a n c := by simpa [Value.cells] using h1.symm
  subst e
  exact ⟨l, h2, h3⟩
theorem pair_elem {F I : TypeId} {f0 f1 : Field} (hF : P.underlying F = some (.struct #[f0, f1])) (e0 : f0.type = I) (e1 : f1.type = I) (hI : P.underlying I = some (.int .i64)) (hcF : P.cellsOf F = 2) (hcI : P.cellsOf I = 1) (o0 : f0.offset = 0) (o1 : f1.offset = 1)
    (n : Nat) (cs : List Value) (x : DataW H × List MemPlace) (h : DataW.trod enc P W base sp held n F cs = some x) : ∃ y : Pr, pairR W cs y := by
  obtain ⟨ys, m, _, _, hl, hyl, hf⟩ := DataW.trod_struct hF h
  rw [hcF] at hl
  have g0 := hf 0 f0 rfl
  have g1 := hf 1 f1 rfl
  match cs, hl, ys, hyl with
  | [c0, c1], _, [y0, y1], _ =>
    rw [e0, hcI, o0] at g0
    rw [e1, hcI, o1] at g1
    simp only [List.drop, List.take, List.getElem?_cons_zero, List.getElem?_cons_succ] at g0 g1
    obtain ⟨z0, h0, _, _⟩ := DataW.trod_int hI g0
    obtain ⟨z1, h1, _, _⟩ := DataW.trod_int hI g1
    cases h0; cases h1
    exact ⟨(z0, z1), rfl⟩
theorem prows_of_trod {T E F I : TypeId} {f0 f1 : Field} {a : Option Addr} {n c : Nat} {d : DataW H} {p : List MemPlace} (hT : P.underlying T = some (.slice E)) (hE : P.underlying E = some (.slice F)) (hF : P.underlying F = some (.struct #[f0, f1])) (e0 : f0.type = I) (e1 : f1.type = I) (hI : P.underlying I = some (.int .i64))
    (hcE : P.cellsOf E = 1) (hcF : P.cellsOf F = 2) (hcI : P.cellsOf I = 1) (o0 : f0.offset = 0) (o1 : f1.offset = 1) (h : DataW.Trod enc P W base sp held T (.slice a n c) d p) : ∃ L, PRowsV W (.slice a n c) L := by
  obtain ⟨fuel, hf⟩ := h
  obtain ⟨v, l, h1, h2, _⟩ := list_of_trod (R := prowR) (Q := fun _ => True) hT hcE (by omega) (fun n cs x h => by
    obtain ⟨v, l, h1, h2, _⟩ := list_of_trod (R := pairR) (Q := fun _ => True) hE hcF (by omega) (fun n cs x h => by
      obtain ⟨y, hy⟩ := pair_elem hF e0 e1 hI hcF hcI o0 o1 n cs x h
      exact ⟨y, hy, trivial⟩) h
    exact ⟨l, ⟨v, h1, h2⟩, trivial⟩) hf
  have e : v = .slice a n c := by simpa [Value.cells] using h1.symm
  subst e
  exact ⟨l, h2⟩
end
end Go.Proofs.YtjeebcnjdhlcfaaDoor
