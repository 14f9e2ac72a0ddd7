/- comb.inTurn: the rows that have pairs in their order. -/
import Derived.Test.YtjeebcnjdhlcfaaDoorComb1
import Derived.Test.YtjeebcnjdhlcfaaDoorCombS
import Derived.Test.YtjeebcnjdhlcfaaDoorCombLay
import Derived.Sort.Grow
import Derived.Deep.QuietTactic
namespace Go.Proofs.YtjeebcnjdhlcfaaDoor
section
open Go.RowKit Go.Sort Go.Shelf
set_option linter.unusedVariables false
set_option linter.unusedSimpArgs false

/-- what a world that the sort passes through has of the caller's -/
theorem sortW_grown {α : Type} [Inhabited α] (enc : α → Value) (w : World) (g k : Nat) (d : Array α) (os : Array Obj) : w.grownBy (sortWorld enc w g 0 k d os) (some g) := by
  refine ⟨rfl, rfl, rfl, ?_, fun j hj hne => ?_⟩
  · show w.heap.size ≤ (w.heap.modify g _ ++ os).size
    simp
  · show (w.heap.modify g (onCells (putCells enc 0 d)) ++ os)[j]? = w.heap[j]?
    rw [Array.getElem?_append_left (by simpa using hj), Array.getElem?_modify, if_neg (fun e => hne (by rw [e]))]
theorem sortW_own {α : Type} [Inhabited α] {w : World} {base g n cap : Nat} {e : TypeId} {xs : List Value} (h : w.ownsRow base e 1 (.slice (some ⟨g, 0, none⟩) n cap) n xs) (enc : α → Value) (d : Array α) (hd : d.size = n) (k : Nat) (os : Array Obj) :
    (sortWorld enc w g 0 k d os).ownsRow base e 1 (.slice (some ⟨g, 0, none⟩) n cap) n (d.toList.map enc) := by
  have hg := (h.lt g rfl).2
  refine ⟨by simp [hd], .inr ?_⟩
  rcases h.2 with ⟨h0, _⟩ | ⟨g', cap', cur, hv, hb, hh, hnc, hc, hs, ht⟩
  · cases h0
  · cases hv
    refine ⟨g, cap, putCells enc 0 d cur, rfl, hb, ?_, hnc, hc, by simp [putCells]; omega, ?_⟩
    · show (w.heap.modify g (onCells (putCells enc 0 d)) ++ os)[g]? = _
      rw [Array.getElem?_append_left (by simpa using hg), Array.getElem?_modify, if_pos rfl, hh]; rfl
    · apply List.ext_getElem?
      intro i
      rw [List.getElem?_take, List.getElem?_map, Array.getElem?_toList, Array.getElem?_toList]
      by_cases hi : i < n
      · rw [if_pos (by omega)]
        have hic : i < cur.size := by omega
        have hid : i < d.size := by omega
        simp [putCells, hic, hid, hi, hd]
      · rw [if_neg (by omega)]
        rw [Array.getElem?_eq_none (by omega)]; rfl

theorem isNaN_any (a : Int) (w : World) : Calls Tryd.prog 33 #[.int .i64 a] w fun e w' => e = .returned (.bool false) ∧ w' = w := by
  have h1 : (a != a) = false := by simp
  go_enter Tryd.func33, Tryd.ntmps33
  go_wp2_with (fail)
  go_ret
  exact ⟨rfl, rfl⟩
def cmpI (a b : Int) : Int := if a < b then -1 else if b < a then 1 else 0
theorem compare_any (a b : Int) (w : World) : Calls Tryd.prog 29 #[.int .i64 a, .int .i64 b] w fun e w' => e = .returned (.int .i64 (cmpI a b)) ∧ w' = w := by
  have hN := Lib.hid isNaN_any
  rcases Int.lt_trichotomy a b with h | h | h
  · have hc : cmpI a b = -1 := by unfold cmpI; rw [if_pos h]
    rw [hc]; clear hc
    go_enter Tryd.func29, Tryd.ntmps29
    go_wp2_with (first | (go_at_call 33; refine (hN.out _ _).mono ?_; rintro e w9 ⟨rfl, rfl⟩))
    go_ret
    exact ⟨rfl, rfl⟩
  · subst h
    have hc : cmpI a a = 0 := by unfold cmpI; rw [if_neg (by omega), if_neg (by omega)]
    have h1 : ¬ a < a := by omega
    rw [hc]; clear hc
    go_enter Tryd.func29, Tryd.ntmps29
    go_wp2_with (first | (go_at_call 33; refine (hN.out _ _).mono ?_; rintro e w9 ⟨rfl, rfl⟩))
    go_ret
    exact ⟨rfl, rfl⟩
  · have hc : cmpI a b = 1 := by unfold cmpI; rw [if_neg (by omega), if_pos h]
    have h1 : ¬ a < b := by omega
    rw [hc]; clear hc
    go_enter Tryd.func29, Tryd.ntmps29
    go_wp2_with (first | (go_at_call 33; refine (hN.out _ _).mono ?_; rintro e w9 ⟨rfl, rfl⟩))
    go_ret
    exact ⟨rfl, rfl⟩

/-- the closure: of two rows' numbers, in a world that has the rows and the variable -/
theorem turn_any (v : Value) (rows : List (List Pr)) (x y : Nat) (hx : x < rows.length) (hy : y < rows.length) (a : Addr) (w : World) (h : PRowsV w v rows) (hc : w.cell? a = some v) :
    Calls Tryd.prog 28 #[.int .i64 x, .int .i64 y, .pointer (some a)] w fun e w' => e = .returned (.int .i64 (cmpLen rows x y)) ∧ ∃ q, w' = w.drewN q := by
  obtain ⟨ra, rn, rc, rfl, hrn, hrc, hrm, hrx⟩ := h.open
  obtain ⟨b1, o1, u1, rfl, c1, i1⟩ := hrx.out x (by rw [hrn.out]; exact hx)
  obtain ⟨b2, o2, u2, e2, c2, i2⟩ := hrx.out y (by rw [hrn.out]; exact hy)
  cases e2
  obtain ⟨a3, n3, k3, rfl, h3, h3c, h3m, _⟩ := i1.open
  obtain ⟨a4, n4, k4, rfl, h4, h4c, h4m, _⟩ := i2.open
  have hxI : (x : Int) < (rn : Int) := by have := hrn.out; omega
  have hyI : (y : Int) < (rn : Int) := by have := hrn.out; omega
  have HE : Hid (cmpI (n4 : Int) (n3 : Int) = cmpLen rows x y) := Lib.hid (by
    unfold cmpI cmpLen
    rw [← show n3 = (rowAt rows x).length from h3.out, ← show n4 = (rowAt rows y).length from h4.out]
    split <;> split <;> (try omega) <;> split <;> omega)
  have HX : Hid (∀ W : World, Calls Tryd.prog 29 #[.int .i64 (n4 : Int), .int .i64 (n3 : Int)] W fun e w' => e = .returned (.int .i64 (cmpI n4 n3)) ∧ ∃ n, w' = W.drewN n) := Lib.hid (fun W => (compare_any n4 n3 W).mono (fun _ _ ⟨h1, h2⟩ => ⟨h1, 0, h2⟩))
  clear hrx h i1 i2 hrn h3 h4 hx hy
  go_enter Tryd.func28, Tryd.ntmps28
  go_wp2_with (fail)
  go_quiet (first | (go_at_call 29; refine Calls.quiet_of (HX.out _)))
  go_wp2_with (fail)
  go_ret
  exact ⟨ret_int HE.out, _, rfl⟩
end
end Go.Proofs.YtjeebcnjdhlcfaaDoor
