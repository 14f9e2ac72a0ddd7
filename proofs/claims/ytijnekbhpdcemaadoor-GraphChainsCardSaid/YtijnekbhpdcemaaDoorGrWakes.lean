/- What the document fixes of closing and of components. -/
import Derived.Test.YtijnekbhpdcemaaDoorGrCloseW
import Derived.Test.YtijnekbhpdcemaaDoorGrSorts
import Derived.Test.YtijnekbhpdcemaaDoorGrLawP
namespace Go.Proofs.YtijnekbhpdcemaaDoor
open Go.RowKit
set_option linter.unusedVariables false
set_option linter.unusedSimpArgs false

theorem IntsV.past {w : World} {v : Value} {l : List Int} (h : IntsV w v l) (o : Obj) : IntsV (w.alloc o) v l := h.below ((Below.refl _ _).alloc (Nat.le_refl _) o)
theorem RowsV.past {w : World} {v : Value} {L : List (List Int)} (h : RowsV w v L) (o : Obj) : RowsV (w.alloc o) v L := h.below ((Below.refl _ _).alloc (Nat.le_refl _) o)
theorem cell_fresh (w : World) (cs : Array Value) (T : TypeId) (B i : Nat) (v : Value) (hB : B = w.heap.size) (h : cs[i]? = some v) : (w.alloc (.cells cs T)).cell? ⟨B, i, none⟩ = some v := by
  subst hB
  rw [cell_of_row _ _ i _ _ (0, 0) (heap_alloc_new _ _)]; exact h
theorem ints1 {w : World} {T : TypeId} {B : Nat} {x : Int} (hB : B = w.heap.size) : IntsV (w.alloc (.cells #[.int .i64 x] T)) (.slice (some ⟨B, 0, none⟩) 1 1) [x] :=
  IntsV.mk rfl (by omega) (by omega) (fun i hi => ⟨B, 0, rfl, by
    match i, hi with
    | 0, _ => exact cell_fresh w _ T B 0 _ hB rfl⟩)
theorem ints2 {w : World} {T : TypeId} {B : Nat} {x y : Int} (hB : B = w.heap.size) : IntsV (w.alloc (.cells #[.int .i64 x, .int .i64 y] T)) (.slice (some ⟨B, 0, none⟩) 2 2) [x, y] :=
  IntsV.mk rfl (by omega) (by omega) (fun i hi => ⟨B, 0, rfl, by
    match i, hi with
    | 0, _ => exact cell_fresh w _ T B 0 _ hB rfl
    | 1, _ => exact cell_fresh w _ T B 1 _ hB rfl⟩)
theorem rows_lay {w : World} {T : TypeId} {B n : Nat} {vs : List Value} {L : List (List Int)} (hB : B = w.heap.size) (hn : n = L.length) (hv : vs.length = n) (hm : n ≤ 1000000) (h : ∀ i, i < n → IntsV w (vs.getD i undef) (L.getD i [])) :
    RowsV (w.alloc (.cells vs.toArray T)) (.slice (some ⟨B, 0, none⟩) n n) L := by
  refine ⟨vs, ⟨some ⟨B, 0, none⟩, n, by rw [hn], by omega, by omega, (fun h => by cases h), fun i hi => ?_⟩, by omega, fun i hi => (h i (by omega)).past _⟩
  refine ⟨B, 0, rfl, ?_⟩
  rw [Nat.zero_add]
  refine cell_fresh w _ T B i _ hB ?_
  simp [List.getD_eq_getElem?_getD, hi]
theorem rows1 {w : World} {T : TypeId} {B : Nat} {v0 : Value} {l0 : List Int} (hB : B = w.heap.size) (h0 : IntsV w v0 l0) : RowsV (w.alloc (.cells #[v0] T)) (.slice (some ⟨B, 0, none⟩) 1 1) [l0] :=
  rows_lay (vs := [v0]) hB rfl rfl (by omega) (fun i hi => by
    match i, hi with
    | 0, _ => exact h0)
theorem rows2 {w : World} {T : TypeId} {B : Nat} {v0 v1 : Value} {l0 l1 : List Int} (hB : B = w.heap.size) (h0 : IntsV w v0 l0) (h1 : IntsV w v1 l1) : RowsV (w.alloc (.cells #[v0, v1] T)) (.slice (some ⟨B, 0, none⟩) 2 2) [l0, l1] :=
  rows_lay (vs := [v0, v1]) hB rfl rfl (by omega) (fun i hi => by
    match i, hi with
    | 0, _ => exact h0
    | 1, _ => exact h1)
theorem rows3 {w : World} {T : TypeId} {B : Nat} {v0 v1 v2 : Value} {l0 l1 l2 : List Int} (hB : B = w.heap.size) (h0 : IntsV w v0 l0) (h1 : IntsV w v1 l1) (h2 : IntsV w v2 l2) :
    RowsV (w.alloc (.cells #[v0, v1, v2] T)) (.slice (some ⟨B, 0, none⟩) 3 3) [l0, l1, l2] :=
  rows_lay (vs := [v0, v1, v2]) hB rfl rfl (by omega) (fun i hi => by
    match i, hi with
    | 0, _ => exact h0
    | 1, _ => exact h1
    | 2, _ => exact h2)
theorem tab_past {w w' : World} (h : TabAt 0 Lib.deBruijn64tab w) (hb : Below w.heap.size w w') : TabAt 0 Lib.deBruijn64tab w' :=
  tab_below h hb (World.block_lt_of_cell? _ _ (h 0 (by decide)))

set_option maxRecDepth 100000 in
set_option maxHeartbeats 4000000 in
theorem grWakes_any (w : World) (hT : TabAt 0 Lib.deBruijn64tab w) : Calls Tryd.prog 31 #[] w fun e w' => e = .returned (.bool true) ∧ Below w.heap.size w w' := by
  have HT := Lib.hid hT
  clear hT
  go_enter Tryd.func31, Tryd.ntmps31
  go_wp2_with fail
  have hrel : RowsV ((((w.alloc (.cells #[.int .i64 1] 3)).alloc (.cells #[.int .i64 0] 3)).alloc (.cells #[.int .i64 0] 3)).alloc (.cells #[.slice (some ⟨w.heap.size, 0, none⟩) 1 1, .slice (some ⟨w.heap.size + 1, 0, none⟩) 1 1, .slice (some ⟨w.heap.size + 1 + 1, 0, none⟩) 1 1] 22)) (.slice (some ⟨w.heap.size + 1 + 1 + 1, 0, none⟩) 3 3) wkL :=
    rows3 (by simp) (((ints1 rfl).past _).past _) ((ints1 (by simp)).past _) (ints1 (by simp))
  have hb0 : Below w.heap.size w ((((w.alloc (.cells #[.int .i64 1] 3)).alloc (.cells #[.int .i64 0] 3)).alloc (.cells #[.int .i64 0] 3)).alloc (.cells #[.slice (some ⟨w.heap.size, 0, none⟩) 1 1, .slice (some ⟨w.heap.size + 1, 0, none⟩) 1 1, .slice (some ⟨w.heap.size + 1 + 1, 0, none⟩) 1 1] 22)) :=
    ((((Below.refl _ _).alloc (by simp) _).alloc (by simp <;> omega) _).alloc (by simp <;> omega) _).alloc (by simp <;> omega) _
  generalize hw3 : (((w.alloc (.cells #[.int .i64 1] 3)).alloc (.cells #[.int .i64 0] 3)).alloc (.cells #[.int .i64 0] 3)).alloc (.cells #[.slice (some ⟨w.heap.size, 0, none⟩) 1 1, .slice (some ⟨w.heap.size + 1, 0, none⟩) 1 1, .slice (some ⟨w.heap.size + 1 + 1, 0, none⟩) 1 1] 22) = w3 at hrel hb0 ⊢
  have hsz : w.heap.size + 1 + 1 + 1 + 1 = w3.heap.size := by rw [← hw3]; simp
  clear hw3
  have HR := Lib.hid hrel
  have HB0 := Lib.hid hb0
  clear hrel hb0
  simp only [hsz]
  refine (closeG_any wkL [[5], [6]] _ _ _ ?_ ?_ (by decide) ?_).mono ?_
  · exact ((HR.out.past _).past _).past _
  · exact rows2 (by simp) ((ints1 rfl).past _) (ints1 (by simp))
  · exact tab_past HT.out (((HB0.out.alloc (HB0.out.size) _).alloc (by have := HB0.out.size; simp; omega) _).alloc (by have := HB0.out.size; simp; omega) _)
  rintro e w4 ⟨⟨cv, C, rfl, hcv, hC, _⟩, hb4⟩
  obtain rfl := isClose_one (hC (by decide)) wk_close
  have hb5 : Below w3.heap.size w3 w4 := (((Below.refl _ _).alloc (by simp) _).alloc (by simp <;> omega) _).alloc (by simp <;> omega) _ |>.trans (hb4.mono (by simp <;> omega))
  have HC := Lib.hid hcv
  have HB5 := Lib.hid hb5
  clear hcv hC hb4 hb5
  go_wp2_with fail
  refine (eqLists_any _ _ [[5, 6], [5, 6], [5, 6]] [[5, 6], [5, 6], [5, 6]] _ ?_ ?_).mono ?_
  · exact (((HC.out.past _).past _).past _).past _
  · exact rows3 (by simp) (((ints2 rfl).past _).past _) ((ints2 (by simp)).past _) (ints2 (by simp))
  rintro e w6 ⟨rfl, hb6⟩
  rw [show (([[5, 6], [5, 6], [5, 6]] : List (List Int)) == [[5, 6], [5, 6], [5, 6]]) = true by decide]
  have hb7 : Below w3.heap.size w3 w6 := HB5.out.trans ((((((Below.refl _ _).alloc (by simp) _).alloc (by simp <;> omega) _).alloc (by simp <;> omega) _).alloc (by simp <;> omega) _ |>.trans (hb6.mono (by simp <;> omega))).mono HB5.out.size)
  have HB7 := Lib.hid hb7
  clear hb6 hb7
  go_wp2_with fail
  refine (comps_all wkL _ _ (HR.out.below HB7.out) (by decide)).mono ?_
  rintro e w8 ⟨⟨cv2, C2, rfl, hcv2, hC2, _⟩, hb8⟩
  obtain rfl := isComps_one (hC2 (by decide)) wk_comps
  have HC2 := Lib.hid hcv2
  have HB8 := Lib.hid (HB7.out.trans (hb8.mono HB7.out.size))
  clear hcv2 hC2 hb8
  go_wp2_with fail
  refine (eqLists_any _ _ [[0, 1], [2]] [[0, 1], [2]] _ ?_ ?_).mono ?_
  · exact ((HC2.out.past _).past _).past _
  · exact rows2 (by simp) ((ints2 rfl).past _) (ints1 (by simp))
  rintro e w9 ⟨rfl, hb9⟩
  rw [show (([[0, 1], [2]] : List (List Int)) == [[0, 1], [2]]) = true by decide]
  have hb10 : Below w8.heap.size w8 w9 := ((((Below.refl _ _).alloc (by simp) _).alloc (by simp <;> omega) _).alloc (by simp <;> omega) _ |>.trans (hb9.mono (by simp <;> omega)))
  have hbe : Below w.heap.size w w9 := HB0.out.trans ((HB8.out.trans (hb10.mono HB8.out.size)).mono HB0.out.size)
  clear hb9 hb10
  go_wp2_with fail
  go_ret
  exact ⟨rfl, hbe⟩

end Go.Proofs.YtijnekbhpdcemaaDoor
