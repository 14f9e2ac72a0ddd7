/- A slice of numbers that came in. -/
import Derived.Test.YtkgbifbbpmdpgaaNFrameV
set_option linter.unusedVariables false
set_option linter.unusedSimpArgs false
namespace Go.Proofs.Ytkgbifbbpmdpgaa
open Go.ChangeShapes Go.WideShapes Go.ChangeAt Go.WideMaps Go.WideElems Go.RowKit Go.Deep
theorem ints_of_trod {H : Type} {enc : TypeId × Value → H} {P : Program} {W : World} {base : Nat} {sp : Nat → Bool} {held : Bool} {T E : TypeId} {a : Option Addr} {n c : Nat} {d : DataW H} {p : List MemPlace}
  (hT : P.underlying T = some (.slice E)) (hE : P.underlying E = some (.int .i64)) (hc : P.cellsOf E = 1) (h : DataW.Trod enc P W base sp held T (.slice a n c) d p) : ∃ l, IntsV W (.slice a n c) l ∧ ∀ x ∈ l, (Lit.int .i64 x).wf = true := by
 obtain ⟨fuel, hf⟩ := h
 rcases open_ints hT hE hc hf with ⟨hcs, _⟩ | ⟨x, l, c', zs, hcs, _, hl, hm, hz, _, hcell, hwz⟩
 · simp [Value.cells] at hcs
   obtain ⟨rfl, rfl, rfl⟩ := hcs
   exact ⟨[], IntsV.mk rfl (by omega) (by omega) (fun i hi => absurd hi (Nat.not_lt_zero _)), fun x hx => by cases hx⟩
 · simp [Value.cells] at hcs
   obtain ⟨rfl, rfl, rfl⟩ := hcs
   have hz' : n ≤ zs.length := by rw [hz]; split <;> omega
   refine ⟨zs.take n, IntsV.mk (by simp; omega) hl (by unfold maxLen at hm; omega) (fun i hi => ?_), fun x hx => hwz x (List.mem_of_mem_take hx)⟩
   have h0 := hcell 0 (by omega)
   have h1 := hcell i (by omega)
   obtain ⟨b, off, spot⟩ := x
   have hspot : spot = none := by simpa [Addr.add] using World.cell?_spot h0
   subst hspot
   have e : (⟨b, off, none⟩ : Addr).add i = ⟨b, off + i, none⟩ := by
    unfold Addr.add; split <;> simp_all
   rw [e] at h1
   refine ⟨b, off, rfl, ?_⟩
   rw [h1, List.getD_eq_getElem?_getD, List.getD_eq_getElem?_getD, List.getElem?_take, if_pos hi]
end Go.Proofs.Ytkgbifbbpmdpgaa
