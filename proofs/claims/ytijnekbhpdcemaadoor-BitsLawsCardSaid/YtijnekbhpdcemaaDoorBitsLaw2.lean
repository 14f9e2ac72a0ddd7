/- The walks of the laws on sets. -/
import Derived.Test.YtijnekbhpdcemaaDoorBitsWakes
import Derived.Test.YtijnekbhpdcemaaDoorSetRef
import Derived.Outline
namespace Go.Proofs.YtijnekbhpdcemaaDoor
open Go.RowKit
set_option linter.unusedVariables false

theorem lenTo_flat (ws : List Nat) (k : Nat) : lenTo ws k = ((List.range k).flatMap (wordNums ws)).length := by
  induction k with
  | zero => rfl
  | succ k ih =>
    rw [flat_succ, List.length_append, ← ih]
    simp only [lenTo]
    congr 1
    unfold wordNums bitsOf pc
    rw [List.length_map, List.countP_eq_length_filter]
theorem len_members (ws : List Nat) : lenTo ws 16 = (membersS ws).length := by rw [lenTo_flat, membersS_eq]

theorem has_members (ws : List Nat) (x : Int) : decide (x ∈ membersS ws) = memS ws x := by
  rw [Bool.eq_iff_iff, decide_eq_true_iff, mem_members]

theorem tab_lt {w : World} (h : TabAt 0 Lib.deBruijn64tab w) : 0 < w.heap.size := World.block_lt_of_cell? _ _ (h 0 (by decide))

/-- a set laid into a new box -/
theorem box_below {w w1 : World} {B : Nat} (ws : List Nat) (T : TypeId) (cs : Array Value) (hb : Below B w w1) (hB : B ≤ w1.heap.size) : Below B w ((w1.alloc (.cells cs T)).setRow w1.heap.size (setA ws)) :=
  below_setRow (hb.alloc hB _) hB _
theorem box_at (w1 : World) (ws : List Nat) (T : TypeId) (cs : Array Value) : ((w1.alloc (.cells cs T)).setRow w1.heap.size (setA ws)).heap[w1.heap.size]? = some (.cells (setA ws) T (0, 0)) :=
  setRow_heap _ _ _ _ _ _ (heap_alloc_new w1 _)
theorem box_size (w1 : World) (ws : List Nat) (T : TypeId) (cs : Array Value) : ((w1.alloc (.cells cs T)).setRow w1.heap.size (setA ws)).heap.size = w1.heap.size + 1 := by simp [World.setRow]

theorem own_below {w w' : World} {base : Nat} {e : TypeId} {size n : Nat} {v : Value} {xs : List Value} (h : w.ownsRow base e size v n xs) (hb : Below w.heap.size w w') : w'.ownsRow base e size v n xs := by
  obtain ⟨h1, h2⟩ := h
  refine ⟨h1, ?_⟩
  rcases h2 with h2 | ⟨g, cap, cur, hv, hg, hh, r⟩
  · exact .inl h2
  · exact .inr ⟨g, cap, cur, hv, hg, block_below hh hb (lt_of_block hh), r⟩

set_option maxRecDepth 100000 in
set_option maxHeartbeats 400000 in
theorem bitsSets_walk (v : Value) (l : List Int) (x : Int) (w : World) (h : IntsV w v l) (w1 : (Lit.int .i64 x).wf = true) (hT : TabAt 0 Lib.deBruijn64tab w) :
    Calls Tryd.prog 3 #[v, .int .i64 x] w fun e w' => e = .returned (.bool true) ∧ Below w.heap.size w w' := by
  have HT := Lib.hid hT
  have HV := Lib.hid h
  clear hT h w1
  go_enter Tryd.func3, Tryd.ntmps3
  go_wp2_with fail
  refine (bitsWakes_any _ HT.out).mono ?_
  rintro e w2 ⟨rfl, hbw⟩
  go_wp2_with fail
  refine (cutInts_any v l 80 _ (HV.out.below hbw) (by omega)).mono ?_
  rintro e w3 ⟨⟨⟨vc, rfl, hvc⟩, _⟩, rfl⟩
  have hcl := cutL_le l 80
  generalize cutL l 80 = c at hvc hcl
  have HC := Lib.hid hvc
  clear hvc
  go_wp2_with fail
  refine (set_any vc c _ HC.out (by omega)).mono ?_
  rintro e w3 ⟨⟨vs, rfl, hvs⟩, hb3⟩
  have HC3 := Lib.hid (HC.out.below hb3)
  have HS := Lib.hid hvs
  replace hbw := hbw.trans (hb3.mono hbw.size)
  clear hb3 hvs
  go_wp2_with fail
  refine (of_any vc c _ HC3.out).mono ?_
  rintro e w4 ⟨rfl, hb3⟩
  have hws : Hid ((ofS c).length = 16) := Lib.hid (ofS_length c)
  have h64 := Lib.hid (ofS_lt c)
  have HS4 := Lib.hid (HS.out.below hb3)
  replace hbw := hbw.trans (hb3.mono hbw.size)
  clear hb3 HC3 HC HS
  generalize ofS c = ws at hws h64 HS4
  go_wp2_with (first
    | (refine wpList_store_row rfl 29 _ _ rfl w4.heap.size (setA ws) rfl rfl 29 (setA noWords) (heap_alloc_new w4 _) (setInfo_of ws hws.out) (by rw [setA_size, setA_size, hws.out]; rfl) (setA_one _) ?_)
    | (refine wpList_load_row rfl 29 _ rfl w4.heap.size rfl 29 (setA ws) (0, 0) _ (box_at w4 ws _ _) Tryd.underlying29 rfl (setInfo_of ws hws.out) ?_))
  refine (list_any ws _ hws.out h64.out (tab_below HT.out (box_below ws _ _ hbw hbw.size) (tab_lt HT.out))).mono ?_
  rintro e w5 ⟨vl, rfl, hown, hb3⟩
  have hbox : w5.heap[w4.heap.size]? = some (.cells (setA ws) 29 (0, 0)) := block_below (box_at w4 ws _ _) hb3 (by rw [box_size]; omega)
  have HS5 := Lib.hid (((HS4.out.below (box_below ws 29 (setA noWords) (Below.refl _ w4) (Nat.le_refl _)))).below hb3)
  have hbw5 : Below w.heap.size w w5 := (box_below ws _ _ hbw hbw.size).trans (hb3.mono (by rw [box_size]; have := hbw.size; omega))
  have hown5 := Lib.hid (own_weaken hown (show w4.heap.size + 1 ≤ _ by rw [box_size]; omega))
  have HL := Lib.hid (IntsV.of_owns hown)
  have HB5 : Below w4.heap.size w4 w5 := (box_below ws 29 (setA noWords) (Below.refl _ w4) (Nat.le_refl _)).trans (hb3.mono (by rw [box_size]; omega))
  have hsz5 : w4.heap.size + 1 ≤ w5.heap.size := by have := hb3.size; rw [box_size] at this; exact this
  have hsz4 : w.heap.size ≤ w4.heap.size := hbw.size
  clear hb3 hown hbw
  go_wp2_with fail
  refine (eqInts_any _ _ _ _ _ HL.out HS5.out).mono ?_
  rintro e w6 ⟨rfl, hb3⟩
  rw [beq_self_eq_true]
  replace hbox := block_below hbox hb3 (lt_of_block hbox)
  have HS6 := Lib.hid (HS5.out.below hb3)
  have HB6 := HB5.trans (hb3.mono (Nat.le_of_succ_le hsz5))
  clear HB5
  have hown6 := Lib.hid (own_below hown5.out hb3)
  have hbw6 := hbw5.trans (hb3.mono hbw5.size)
  have hsz6 : w4.heap.size + 1 ≤ w6.heap.size := Nat.le_trans hsz5 hb3.size
  clear hb3 HS5 hown5 hbw5 HL hsz5
  go_wp2_with (first | (refine wpList_load_row rfl 29 _ rfl w4.heap.size rfl 29 (setA ws) (0, 0) _ hbox Tryd.underlying29 rfl (setInfo_of ws hws.out) ?_) | (refine wpList_load_row_g rfl 29 _ rfl w4.heap.size rfl 29 (setA ws) (0, 0) _ hbox Tryd.underlying29 rfl (setInfo_of ws hws.out) ?_))
  refine (len_any ws _ hws.out h64.out).mono ?_
  rintro e w7 ⟨rfl, hb3⟩
  rw [len_members]
  replace hbox := block_below hbox hb3 (lt_of_block hbox)
  have HS7 := Lib.hid (HS6.out.below hb3)
  have HB7 := HB6.trans (hb3.mono (Nat.le_of_succ_le hsz6))
  clear HB6
  have hown7 := Lib.hid (own_below hown6.out hb3)
  have hbw7 := hbw6.trans (hb3.mono hbw6.size)
  have hsz7 : w4.heap.size + 1 ≤ w7.heap.size := Nat.le_trans hsz6 hb3.size
  clear hb3 HS6 hown6 hbw6 hsz6
  obtain ⟨sa, ns, cs, rfl, hns, hnc, hcc, _⟩ := HS7.out.open
  rw [← hns.out]
  go_wp2_with (first | (refine wpList_load_row rfl 29 _ rfl w4.heap.size rfl 29 (setA ws) (0, 0) _ hbox Tryd.underlying29 rfl (setInfo_of ws hws.out) ?_) | (refine wpList_load_row_g rfl 29 _ rfl w4.heap.size rfl 29 (setA ws) (0, 0) _ hbox Tryd.underlying29 rfl (setInfo_of ws hws.out) ?_))
  refine (has_any ws _ _ hws.out h64.out).mono ?_
  rintro e w8 ⟨rfl, hb3⟩
  replace hbox := block_below hbox hb3 (lt_of_block hbox)
  have HS8 := Lib.hid (HS7.out.below hb3)
  have HB8 := HB7.trans (hb3.mono (Nat.le_of_succ_le hsz7))
  clear HB7
  have hown8 := Lib.hid (own_below hown7.out hb3)
  have hbw8 := hbw7.trans (hb3.mono hbw7.size)
  have hsz8 : w4.heap.size + 1 ≤ w8.heap.size := Nat.le_trans hsz7 hb3.size
  clear hb3 HS7 hown7 hbw7 hsz7
  go_wp2_with fail
  refine (zhas_any _ _ x _ HS8.out).mono ?_
  rintro e w9 ⟨rfl, rfl⟩
  rw [has_members]
  go_wp2_with fail
  refine (spoil_any _ _ _ _ _ hown8.out).mono ?_
  rintro e w9 ⟨rfl, hb3⟩
  have hbox9 := block_below hbox hb3 (Nat.lt_succ_self _)
  have HB9 := HB8.trans (hb3.mono (Nat.le_succ _))
  have HS9 := Lib.hid (HS4.out.below HB9)
  have hbw9 := hbw8.trans (hb3.mono (Nat.le_succ_of_le hsz4))
  have hsz9 : w4.heap.size + 1 ≤ w9.heap.size := lt_of_block hbox9
  clear hb3 hown8 HS8 HB8 HB9 hbox hbw8 hsz8 HS4
  go_wp2_with (first | (refine wpList_load_row rfl 29 _ rfl w4.heap.size rfl 29 (setA ws) (0, 0) _ hbox9 Tryd.underlying29 rfl (setInfo_of ws hws.out) ?_) | (refine wpList_load_row_g rfl 29 _ rfl w4.heap.size rfl 29 (setA ws) (0, 0) _ hbox9 Tryd.underlying29 rfl (setInfo_of ws hws.out) ?_))
  refine (list_any ws _ hws.out h64.out (tab_below HT.out hbw9 (tab_lt HT.out))).mono ?_
  rintro e w10 ⟨vl2, rfl, hown, hb3⟩
  have HL2 := Lib.hid (IntsV.of_owns hown)
  have HS10 := Lib.hid (HS9.out.below hb3)
  have hbw10 := hbw9.trans (hb3.mono hbw9.size)
  clear hb3 hown HS9 hbw9
  go_wp2_with fail
  refine (eqInts_any _ _ _ _ _ HL2.out HS10.out).mono ?_
  rintro e w11 ⟨rfl, hb3⟩
  rw [beq_self_eq_true]
  have hbw11 := hbw10.trans (hb3.mono hbw10.size)
  go_wp2_with fail
  go_ret
  exact ⟨rfl, hbw11⟩

end Go.Proofs.YtijnekbhpdcemaaDoor
