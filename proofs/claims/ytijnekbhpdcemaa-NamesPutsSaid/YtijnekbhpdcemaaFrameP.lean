/- What the arguments give the walks (a plain seat). -/
import Derived.Test.YtijnekbhpdcemaaRows
import Derived.ProofKit
import Derived.LaidMore
import Derived.OpenShut
import Derived.ShutString
import Derived.ChangeOld
import Derived.Below
import Derived.Stop.Joined
import Derived.SliceStrings
import Derived.Test.YtijnekbhpdcemaaNames14
namespace Go.Proofs.Ytijnekbhpdcemaa
open Go.ChangeShapes Go.WideShapes Go.ChangeAt Go.WideMaps Go.WideElems Go.RowKit

theorem own : ownKnob Try.prog.godebug = none := by kernel_rfl
theorem laidOut : laidOutB Try.prog = true := by kernel_rfl

/-- a slice of strings that came in -/
theorem strs_of_trod {H : Type} {enc : TypeId × Value → H} {P : Program} {W : World} {base : Nat} {sp : Nat → Bool} {held : Bool} {T E : TypeId} {a : Option Addr} {n c : Nat} {d : DataW H} {p : List MemPlace}
    (hT : P.underlying T = some (.slice E)) (hE : P.underlying E = some .string) (hc : P.cellsOf E = 1) (h : DataW.Trod enc P W base sp held T (.slice a n c) d p) : ∃ l, StrsIn W (.slice a n c) l := by
  obtain ⟨fuel, hf⟩ := h
  rcases open_strings hT hE hc hf with ⟨hcs, _⟩ | ⟨x, l, c', ss, hcs, _, hl, hm, hz, _, hcell, hwz⟩
  · simp [Value.cells] at hcs
    obtain ⟨rfl, rfl, rfl⟩ := hcs
    exact ⟨[], StrsV.nil _, fun s hs => by cases hs⟩
  · simp [Value.cells] at hcs
    obtain ⟨rfl, rfl, rfl⟩ := hcs
    have hz' : n ≤ ss.length := by rw [hz]; split <;> omega
    have hl2 : (ss.take n).length = n := by simp; omega
    refine ⟨ss.take n, ⟨some x, c, by rw [hl2], by omega, by unfold maxLen at hm; omega, (fun h => by cases h), fun i hi => ?_⟩, fun s hs => hwz s (List.mem_of_mem_take hs)⟩
    have hi2 : i < ((ss.take n).map Value.string).length := hi
    have hi' : i < n := by rw [List.length_map, hl2] at hi2; exact hi2
    have h0 := hcell 0 (by omega)
    have h1 := hcell i (by omega)
    obtain ⟨b, off, spot⟩ := x
    have hspot : spot = none := by simpa [Addr.add] using World.cell?_spot h0
    subst hspot
    have e : (⟨b, off, none⟩ : Addr).add i = ⟨b, off + i, none⟩ := by
      unfold Addr.add; split <;> simp_all
    rw [e] at h1
    refine ⟨b, off, rfl, ?_⟩
    rw [h1, getD_map_str _ i (by omega), List.getD_eq_getElem?_getD, List.getD_eq_getElem?_getD, List.getElem?_take, if_pos hi']

end Go.Proofs.Ytijnekbhpdcemaa
