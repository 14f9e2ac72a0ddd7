/- Slices of slices of numbers that came in. -/
import Derived.Test.YtijnekbhpdcemaaDoorFrame
import Derived.Test.YtijnekbhpdcemaaDoorGrRows
import Derived.Deep.Slices
namespace Go.Proofs.YtijnekbhpdcemaaDoor
open Go.ChangeShapes Go.WideShapes Go.ChangeAt Go.WideMaps Go.WideElems Go.RowKit Go.Deep

theorem rows_of_trod {H : Type} {enc : TypeId × Value → H} {P : Program} {W : World} {base : Nat} {sp : Nat → Bool} {held : Bool} {T E F : TypeId} {a : Option Addr} {n c : Nat} {d : DataW H} {p : List MemPlace}
    (hT : P.underlying T = some (.slice E)) (hE : P.underlying E = some (.slice F)) (hF : P.underlying F = some (.int .i64)) (hcE : P.cellsOf E = 1) (hcF : P.cellsOf F = 1)
    (h : DataW.Trod enc P W base sp held T (.slice a n c) d p) : ∃ L, RowsV W (.slice a n c) L := by
  obtain ⟨fuel, hf⟩ := h
  rcases open_slice1 hT hcE hf with ⟨hcs, _⟩ | ⟨x, l, c', m, k, V, D, Pl, hcs, _, hl, hm, hmm, _, hi⟩
  · simp [Value.cells] at hcs
    obtain ⟨rfl, rfl, rfl⟩ := hcs
    exact ⟨[], [], ⟨none, 0, rfl, by simp, by omega, fun _ => rfl, fun i hi => absurd hi (Nat.not_lt_zero _)⟩, rfl, fun i hi => absurd hi (Nat.not_lt_zero _)⟩
  · simp [Value.cells] at hcs
    obtain ⟨rfl, rfl, rfl⟩ := hcs
    have hlm : n ≤ m := by rw [hmm]; split <;> omega
    have hrow : ∀ i, ∃ r : List Int, i < n → IntsV W (V i) r := fun i => by
      by_cases hlt : i < n
      · have ht := (hi i (by omega)).2
        have hv : ∃ a' n' c', V i = .slice a' n' c' := by
          rcases open_ints hE hF hcF ht with ⟨e, _⟩ | ⟨a', n', c', _, e, _⟩
          · simp at e; exact ⟨_, _, _, e⟩
          · simp at e; exact ⟨_, _, _, e⟩
        obtain ⟨a', n', c', hv⟩ := hv
        rw [hv] at ht ⊢
        obtain ⟨r, hr⟩ := ints_of_trod (enc := enc) (P := P) (W := W) (d := D i) (p := Pl i) hE hF hcF ⟨k, by simpa [Value.cells] using ht⟩
        exact ⟨r, fun _ => hr⟩
      · exact ⟨[], fun h => absurd h hlt⟩
    obtain ⟨R, hR⟩ := Classical.axiomOfChoice hrow
    have hx0 : 0 < n → x.spot = none := fun h => by
      have h1 := (hi 0 (by omega)).1
      have e : x.add 0 = x := by simp [Addr.add]
      rw [e] at h1
      exact World.cell?_spot h1
    have hgv : ∀ i, i < n → ((List.range n).map V).getD i undef = V i := fun i h => by simp [List.getD_eq_getElem?_getD, h]
    have hgr : ∀ i, i < n → ((List.range n).map R).getD i [] = R i := fun i h => by simp [List.getD_eq_getElem?_getD, h]
    refine ⟨(List.range n).map R, (List.range n).map V, ⟨some x, c, by simp, by simpa using hl, by unfold maxLen at hm; omega, (fun h => by cases h), fun i hi2 => ?_⟩, by simp, fun i hi2 => ?_⟩
    · have hin : i < n := by simpa using hi2
      have hspot := hx0 (by omega)
      have h1 := (hi i (by omega)).1
      obtain ⟨b, off, spot⟩ := x
      subst hspot
      refine ⟨b, off, rfl, ?_⟩
      rw [hgv i hin]
      have e : (⟨b, off, none⟩ : Addr).add i = ⟨b, off + i, none⟩ := by
        unfold Addr.add; split <;> simp_all
      rw [e] at h1
      exact h1
    · have hin : i < n := by simpa using hi2
      rw [hgv i hin, hgr i hin]
      exact hR i hin

end Go.Proofs.YtijnekbhpdcemaaDoor
