/- What the document fixes of sets and pairs. -/
import Derived.Test.YtijnekbhpdcemaaDoorList
import Derived.Test.YtijnekbhpdcemaaDoorUnpair
import Derived.Outline
namespace Go.Proofs.YtijnekbhpdcemaaDoor
open Go.RowKit
set_option linter.unusedVariables false

def w5 : List Nat := [34, 0, 0, 0, 0, 0, 0, 0, 0, 0, 0, 0, 0, 0, 0, 0]
theorem ofS_5 : ofS [5, 1, 2000, 1] = w5 := by decide
theorem unpair_4 {i j : Int} (h : UnpairIs 4 i j) : i = 1 ∧ j = 1 := by
  refine unpair_one h (.inr ⟨by omega, 2, ⟨by omega, by decide, by decide⟩, .inl ?_⟩)
  have : tri 2 = 3 := rfl
  rw [this]; omega

set_option maxRecDepth 100000 in
theorem bitsWakes_any (w : World) (hT : TabAt 0 Lib.deBruijn64tab w) : Calls Tryd.prog 13 #[] w fun e w' => e = .returned (.bool true) ∧ Below w.heap.size w w' := by
  have HT := Lib.hid hT
  clear hT
  go_enter Tryd.func13, Tryd.ntmps13
  go_wp2_with fail
  refine (of_any _ [5, 1, 2000, 1] _ (IntsV.mk (n := 4) rfl (by omega) (by omega) (fun i hi => ⟨w.heap.size, 0, rfl, ?_⟩))).mono ?_
  · match i, hi with
    | 0, _ => simp
    | 1, _ => simp
    | 2, _ => simp
    | 3, _ => simp
  rintro e w1 ⟨rfl, hb1⟩
  rw [ofS_5]
  go_wp2_with (first | (refine wpList_store_row rfl 29 _ _ rfl w1.heap.size (setA w5) rfl rfl 29 (setA noWords) (heap_alloc_new w1 _) (setInfo_of w5 rfl) rfl (setA_one _) ?_))
  refine (unpair_any _ _).mono ?_
  rintro e w2 ⟨⟨i, j, rfl, hu⟩, hb2⟩
  obtain ⟨rfl, rfl⟩ := unpair_4 hu
  have hbox : w2.heap[w1.heap.size]? = some (.cells (setA w5) 29 (0, 0)) := by
    rw [hb2.block _ (by simp [World.setRow])]; exact setRow_heap _ _ _ _ _ _ (heap_alloc_new w1 _)
  have hbw : Below w.heap.size w w2 := by
    have h1 : w.heap.size ≤ w1.heap.size := Nat.le_trans (by simp) hb1.size
    have h3 := hb2.mono (show w.heap.size ≤ _ by simp [World.setRow]; omega)
    exact (((Below.refl _ _).alloc (Nat.le_refl _) _).trans (hb1.mono (by simp))).trans ((below_setRow ((Below.refl _ _).alloc h1 _) h1 _).trans h3)
  clear hb1 hb2 hu
  go_wp2_with (first | (refine wpList_load_row rfl 29 _ rfl w1.heap.size rfl 29 (setA w5) (0, 0) _ hbox Tryd.underlying29 rfl (setInfo_of w5 rfl) ?_) | (refine wpList_load_row_g rfl 29 _ rfl w1.heap.size rfl 29 (setA w5) (0, 0) _ hbox Tryd.underlying29 rfl (setInfo_of w5 rfl) ?_))
  refine (has_any w5 _ _ rfl (by decide)).mono ?_
  rintro e w3 ⟨rfl, hb3⟩
  rw [show memS w5 5 = true by decide]
  replace hbox := block_below hbox hb3 (lt_of_block hbox)
  replace hbw := hbw.trans (hb3.mono hbw.size)
  clear hb3
  go_wp2_with (first | (refine wpList_load_row rfl 29 _ rfl w1.heap.size rfl 29 (setA w5) (0, 0) _ hbox Tryd.underlying29 rfl (setInfo_of w5 rfl) ?_) | (refine wpList_load_row_g rfl 29 _ rfl w1.heap.size rfl 29 (setA w5) (0, 0) _ hbox Tryd.underlying29 rfl (setInfo_of w5 rfl) ?_))
  refine (has_any w5 _ _ rfl (by decide)).mono ?_
  rintro e w4 ⟨rfl, hb3⟩
  rw [show memS w5 2000 = false by decide]
  replace hbox := block_below hbox hb3 (lt_of_block hbox)
  replace hbw := hbw.trans (hb3.mono hbw.size)
  clear hb3
  go_wp2_with (first | (refine wpList_load_row rfl 29 _ rfl w1.heap.size rfl 29 (setA w5) (0, 0) _ hbox Tryd.underlying29 rfl (setInfo_of w5 rfl) ?_) | (refine wpList_load_row_g rfl 29 _ rfl w1.heap.size rfl 29 (setA w5) (0, 0) _ hbox Tryd.underlying29 rfl (setInfo_of w5 rfl) ?_))
  refine (len_any w5 _ rfl (by decide)).mono ?_
  rintro e w5' ⟨rfl, hb3⟩
  rw [show ((lenTo w5 16 : Nat) : Int) = 2 by decide +kernel]
  replace hbox := block_below hbox hb3 (lt_of_block hbox)
  replace hbw := hbw.trans (hb3.mono hbw.size)
  clear hb3
  go_wp2_with (first | (refine wpList_load_row rfl 29 _ rfl w1.heap.size rfl 29 (setA w5) (0, 0) _ hbox Tryd.underlying29 rfl (setInfo_of w5 rfl) ?_) | (refine wpList_load_row_g rfl 29 _ rfl w1.heap.size rfl 29 (setA w5) (0, 0) _ hbox Tryd.underlying29 rfl (setInfo_of w5 rfl) ?_))
  refine (list_any w5 _ rfl (by decide) (tab_below HT.out hbw (World.block_lt_of_cell? _ _ (HT.out 0 (by decide))))).mono ?_
  rintro e w6 ⟨v, rfl, hown, hb3⟩
  rw [show membersS w5 = [1, 5] by decide +kernel] at hown
  have hv := IntsV.of_owns hown
  replace hbw := hbw.trans (hb3.mono hbw.size)
  clear hb3 hown
  have HV := Lib.hid hv
  clear hv
  go_wp2_with fail
  refine (eqInts_any _ _ [1, 5] [1, 5] _ (HV.out.below ((Below.refl _ _).alloc (Nat.le_refl _) _)) (IntsV.mk (n := 2) rfl (by omega) (by omega) (fun i hi => ⟨w6.heap.size, 0, rfl, ?_⟩))).mono ?_
  · match i, hi with
    | 0, _ => simp
    | 1, _ => simp
  rintro e w7 ⟨rfl, hb3⟩
  rw [show (([1, 5] : List Int) == [1, 5]) = true by decide]
  replace hbw := hbw.trans (((Below.refl _ _).alloc (Nat.le_refl _) _).trans (hb3.mono (by simp)) |>.mono hbw.size)
  clear hb3
  go_wp2_with fail
  refine (pair_any _ _ _).mono ?_
  rintro e w8 ⟨rfl, rfl⟩
  rw [show pairS 1 1 = 4 by decide]
  go_wp2_with fail
  refine (pair_any _ _ _).mono ?_
  rintro e w8 ⟨rfl, rfl⟩
  rw [show pairS (-1) 3 = -1 by decide]
  go_wp2_with fail
  go_ret
  exact ⟨rfl, hbw⟩

end Go.Proofs.YtijnekbhpdcemaaDoor
