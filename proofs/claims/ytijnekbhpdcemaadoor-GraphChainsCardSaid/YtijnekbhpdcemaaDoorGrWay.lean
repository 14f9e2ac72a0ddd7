/- The way: the places that are walked, as they lie. -/
import Derived.Test.YtijnekbhpdcemaaDoorGrClose
namespace Go.Proofs.YtijnekbhpdcemaaDoor
open Go.RowKit
set_option linter.unusedVariables false
set_option linter.unusedSimpArgs false

def wayCells : List (Int × Nat) → List Value
  | [] => []
  | p :: ws => wayCells ws ++ [.int .i64 p.1, .int .i64 (p.2 : Int)]
theorem wayCells_len : ∀ ws, (wayCells ws).length = ws.length * 2
  | [] => rfl
  | p :: ws => by simp [wayCells, wayCells_len ws]; omega
def WayV (w : World) (B : Nat) (v : Value) (ws : List (Int × Nat)) : Prop := w.ownsRow B 71 2 v ws.length (wayCells ws)
theorem WayV.at_ {w : World} {B : Nat} {v : Value} {p : Int × Nat} {ws : List (Int × Nat)} (h : WayV w B v (p :: ws)) :
    ∃ g cap, v = .slice (some ⟨g, 0, none⟩) (ws.length + 1) cap ∧ B ≤ g ∧ g < w.heap.size ∧ w.cell? ⟨g, ws.length * 2, none⟩ = some (.int .i64 p.1) ∧ w.cell? ⟨g, ws.length * 2 + 1, none⟩ = some (.int .i64 (p.2 : Int)) ∧
      (∀ j, w.frozen? ⟨g, j, none⟩ = false) ∧ ws.length + 1 ≤ cap := by
  obtain ⟨g, cap, rfl, h1, h2, h3, h4⟩ := owns_at h (by simp)
  have hl := wayCells_len ws
  refine ⟨g, cap, rfl, h1, h2, ?_, ?_, fun j => h.frozenAt j, by simpa using h3⟩
  · rw [h.cellAt (ws.length * 2) (by simp only [List.length_cons]; omega)]
    show (wayCells ws ++ _)[_]? = _
    rw [List.getElem?_append_right (by omega), hl]; simp
  · rw [h.cellAt (ws.length * 2 + 1) (by simp only [List.length_cons]; omega)]
    show (wayCells ws ++ _)[_]? = _
    rw [List.getElem?_append_right (by omega), hl, show ws.length * 2 + 1 - ws.length * 2 = 1 by omega]; rfl
theorem WayV.next {w : World} {B g cap : Nat} {i : Int} {k : Nat} {ws : List (Int × Nat)} (h : WayV w B (.slice (some ⟨g, 0, none⟩) (ws.length + 1) cap) ((i, k) :: ws)) :
    WayV (w.setCell ⟨g, ws.length * 2 + 1, none⟩ (.int .i64 ((k : Int) + 1))) B (.slice (some ⟨g, 0, none⟩) (ws.length + 1) cap) ((i, k + 1) :: ws) := by
  have h1 := (h.stored (ws.length * 2 + 1) (.int .i64 ((k : Int) + 1))).1
  have hl := wayCells_len ws
  have h2 : (wayCells ((i, k) :: ws)).set (ws.length * 2 + 1) (.int .i64 ((k : Int) + 1)) = wayCells ((i, k + 1) :: ws) := by
    show (wayCells ws ++ _).set _ _ = wayCells ws ++ _
    rw [List.set_append_right _ _ (by omega), hl, show ws.length * 2 + 1 - ws.length * 2 = 1 by omega]
    simp
  rw [h2] at h1
  exact h1
theorem WayV.pop {w : World} {B g cap : Nat} {p : Int × Nat} {ws : List (Int × Nat)} (h : WayV w B (.slice (some ⟨g, 0, none⟩) (ws.length + 1) cap) (p :: ws)) :
    WayV w B (.slice (some ⟨g, 0, none⟩) ws.length cap) ws := by
  have h1 := owns_take h (m := ws.length) (by simp)
  have hl := wayCells_len ws
  have h2 : (wayCells (p :: ws)).take (ws.length * 2) = wayCells ws := by
    show (wayCells ws ++ _).take _ = _
    rw [← hl, List.take_left]
  rw [h2] at h1
  exact h1
theorem WayV.moved {w w' : World} {B : Nat} {v : Value} {ws : List (Int × Nat)} (h : WayV w B v ws) (hb : ∀ k, v.ownBlock = some k → w'.heap[k]? = w.heap[k]?) : WayV w' B v ws := owns_block h hb
theorem WayV.drew {w : World} {B : Nat} {v : Value} {ws : List (Int × Nat)} (h : WayV w B v ws) : WayV w.drew B v ws := h

/-- a row of the relation -/
theorem row_at {W : World} {a : Option Addr} {n c : Nat} {L : List (List Int)} (h : RowsV W (.slice a n c) L) (i : Nat) (hi : i < n) :
    ∃ b off ra rn rc, a = some ⟨b, off, none⟩ ∧ W.cell? ⟨b, off + i, none⟩ = some (.slice ra rn rc) ∧ Hid (rn = (L.getD i []).length) ∧ rn ≤ rc ∧ rc ≤ 9223372036854775807 ∧
      Hid (∀ k, k < rn → ∃ b' off', ra = some ⟨b', off', none⟩ ∧ W.cell? ⟨b', off' + k, none⟩ = some (.int .i64 ((L.getD i []).getD k 0))) := by
  obtain ⟨a', n', c', hv, hn, hnc, hc, hx⟩ := h.open
  cases hv
  obtain ⟨b, off, u, ha, hcell, hu⟩ := hx.out i hi
  obtain ⟨ra, rn, rc, rfl, h1, h2, h3, h4⟩ := hu.open
  exact ⟨b, off, ra, rn, rc, ha, hcell, h1, h2, h3, h4⟩

/-- isNode -/
theorem isNode_any (b : Nat) (a : Option Addr) (n c : Nat) (j : Int) (q : Bool) (w : World) (hc : w.cell? ⟨b, 0, none⟩ = some (.slice a n c)) (hn : n ≤ 9223372036854775807) (hq : q = decide (0 ≤ j ∧ j < (n : Int))) :
    Calls Tryd.prog 49 #[.pointer (some ⟨b, 0, none⟩), .int .i64 j] w fun e w' => e = .returned (.bool q) ∧ w' = w := by
  subst hq
  by_cases h0 : 0 ≤ j
  · by_cases h1 : j < (n : Int)
    · have h2 : decide (0 ≤ j ∧ j < (n : Int)) = true := by simp [h0, h1]
      rw [h2]; clear h2
      go_enter Tryd.func49, Tryd.ntmps49
      go_wp2_with (fail)
      go_ret
      exact ⟨rfl, rfl⟩
    · have h2 : decide (0 ≤ j ∧ j < (n : Int)) = false := by simp; omega
      rw [h2]; clear h2
      go_enter Tryd.func49, Tryd.ntmps49
      go_wp2_with (fail)
      go_ret
      exact ⟨rfl, rfl⟩
  · have h2 : decide (0 ≤ j ∧ j < (n : Int)) = false := by simp; omega
    rw [h2]; clear h2
    go_enter Tryd.func49, Tryd.ntmps49
    go_wp2_with (fail)
    go_ret
    exact ⟨rfl, rfl⟩

end Go.Proofs.YtijnekbhpdcemaaDoor
