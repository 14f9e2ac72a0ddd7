/- graph.own: a node's own numbers, as a set. -/
import Derived.Test.YtijnekbhpdcemaaDoorGrWay
import Derived.Test.YtijnekbhpdcemaaDoorSetRef
import Derived.Laws.Tables
import Derived.Laws.CopyRow
import Derived.Laws.IdiomCopy
namespace Go.Proofs.YtijnekbhpdcemaaDoor
section
open Go.RowKit
set_option linter.unusedVariables false
set_option linter.unusedSimpArgs false

theorem own_any (sv : Value) (S : List (List Int)) (i : Nat) (w : World) (h : RowsV w sv S) :
    Calls Tryd.prog 48 #[sv, .int .i64 i] w fun e w' => e = .returned (.agg (setA (ofS (S.getD i [])))) ∧ Below w.heap.size w w' := by
  obtain ⟨sa, sn, sc, rfl, hsn, hsc, hsm, hsx⟩ := h.open
  obtain rfl : sn = S.length := hsn.out
  have hh0 : (w.alloc (.cells (setA noWords) 29)).heap[w.heap.size]? = some (.cells (setA noWords) 29 (0, 0)) := heap_alloc_new _ _
  have hb1 := (Below.refl w.heap.size w).alloc (Nat.le_refl _) (.cells (setA noWords) 29)
  by_cases hi : i < S.length
  · have hiI : (i : Int) < (S.length : Int) := by omega
    obtain ⟨b, off, u, rfl, hc, hu⟩ := hsx.out i hi
    have hcu : ∀ o : Obj, (w.alloc o).cell? ⟨b, off + i, none⟩ = some u := fun o => (((Below.refl w.heap.size w).alloc (Nat.le_refl _) o).cell (World.block_lt_of_cell? _ _ hc)).trans hc
    have HX := Lib.hid (of_any u (S.getD i []) _ (hu.below hb1))
    obtain ⟨ua, un, uc, rfl, _⟩ := hu.open
    clear hc
    clear hsx hsn hsc hsm h
    go_enter Tryd.func48, Tryd.ntmps48
    go_wp2_with (fail)
    refine HX.out.mono ?_
    rintro e w2 ⟨rfl, hb2⟩
    have hh2 : w2.heap[w.heap.size]? = some (.cells (setA noWords) 29 (0, 0)) := by rw [hb2.block _ (by simp)]; exact hh0
    have hlen := ofS_length (S.getD i [])
    generalize hws : ofS (S.getD i []) = ws at *
    have HWS := Lib.hid hws
    clear hws
    go_wp2_with (first | (refine wpList_store_row rfl 29 _ _ rfl w.heap.size (setA ws) rfl rfl 29 (setA noWords) hh2 (setInfo_of ws hlen) (by rw [setA_size, setA_size, hlen]; rfl) (setA_one _) ?_))
    have hR := setRow_heap w2 w.heap.size (setA noWords) (setA ws) 29 (0, 0) hh2
    exact bodyPost_ret (v := .agg (setA ws)) (results_cell_row rfl _ _ w.heap.size 29 (setA ws) (0, 0) _ rfl hR Tryd.underlying29 rfl (setInfo_of ws hlen)) rfl ⟨by rw [HWS.out], below_setRow (hb1.trans (hb2.mono (by simp))) (Nat.le_refl _) _⟩
  · have hiI : ¬ (i : Int) < (S.length : Int) := by omega
    have h0 : S.getD i [] = [] := by rw [List.getD_eq_getElem?_getD, List.getElem?_eq_none (by omega)]; rfl
    have h1 : ofS [] = noWords := rfl
    have hlen : noWords.length = 16 := rfl
    rw [h0, h1]
    clear hsx hsn hsc hsm h h0 h1
    go_enter Tryd.func48, Tryd.ntmps48
    go_wp2_with (first | (refine wpList_store_row rfl 29 _ _ rfl w.heap.size (setA noWords) rfl rfl 29 (setA noWords) hh0 (setInfo_of noWords hlen) (by rw [setA_size, setA_size]) (setA_one _) ?_))
    exact bodyPost_ret (v := .agg (setA noWords)) (results_cell_row rfl _ _ w.heap.size 29 (setA noWords) (0, 0) _ rfl hh0 Tryd.underlying29 rfl (setInfo_of noWords hlen)) rfl ⟨rfl, hb1⟩
end

section
open Go.RowKit
set_option linter.unusedVariables false
set_option linter.unusedSimpArgs false

section
variable {P : Program}
theorem run_loadVar_part (w : World) (g off : Nat) (ty : TypeId) (cs : List Value) (d : TypeDesc) (hc : ∀ j v, cs[j]? = some v → w.cell? ⟨g, off + j, none⟩ = some v)
    (hu : P.underlying ty = some d) (hd : (match d with | .struct _ | .array _ _ => true | _ => false) = true) (hi : (P.info? ty).map (·.size) = some cs.length) :
    (loadVar ty ⟨g, off, none⟩).run P w = .ok (.agg cs.toArray) w := by
  have hl : (loadCells ⟨g, off, none⟩ cs.length).run P w = .ok cs.toArray w := run_loadCells_list (P := P) w ⟨g, off, none⟩ cs (fun j v hv => by rw [addr_add]; exact hc j v hv)
  cases hq : P.info? ty with
  | none => simp [hq] at hi
  | some i =>
    have hs : i.size = cs.length := by simpa [hq] using hi
    have hagg : (isAgg ty).run P w = .ok true w := by
      unfold isAgg
      rw [Sem.run_bind, run_underlying hu w]
      cases d <;> simp_all
    simp [loadVar, Sem.run_bind, hagg, sizeOf, typeInfo, hq, hs, hl]
theorem wp_load_part {o : Oper} {a : Act} {w : World} {K : Act → World → Prop} {Q : Exit → Act → World → Prop} (ty : TypeId) (x : Operand) (ho : o.op = .load ty x)
    (g off : Nat) (hx : a.eval x = .pointer (some ⟨g, off, none⟩)) (cs : List Value) (d : TypeDesc) (hc : ∀ j v, cs[j]? = some v → w.cell? ⟨g, off + j, none⟩ = some v)
    (hu : P.underlying ty = some d) (hd : (match d with | .struct _ | .array _ _ => true | _ => false) = true) (hi : (P.info? ty).map (·.size) = some cs.length)
    (h : K (a.put o.dst (.agg cs.toArray)) w) : o.wp P a w K Q := by
  unfold Oper.wp execOp
  simp only [ho, hx, Instr.loadAt, Instr.sureAddr, Sem.run_bind, Sem.run_pure, Result.andThen_ok, run_loadVar_part w g off ty cs d hc hu hd hi]
  exact h
theorem wpList_load_part {ops : Array Oper} {rest : List Oper} {o : Oper} {a : Act} {w : World} {Q : Exit → Act → World → Prop} (hgd : o.guard = none) (ty : TypeId) (x : Operand) (ho : o.op = .load ty x)
    (g off : Nat) (hx : a.eval x = .pointer (some ⟨g, off, none⟩)) (cs : List Value) (d : TypeDesc) (hc : ∀ j v, cs[j]? = some v → w.cell? ⟨g, off + j, none⟩ = some v)
    (hu : P.underlying ty = some d) (hd : (match d with | .struct _ | .array _ _ => true | _ => false) = true) (hi : (P.info? ty).map (·.size) = some cs.length)
    (h : wpList P ops Q rest (a.put o.dst (.agg cs.toArray)) w) : wpList P ops Q (o :: rest) a w :=
  wpList_plain hgd fun _ hK => wp_load_part ty x ho g off hx cs d hc hu hd hi (hK _ _ h)
/-- the row behind a store of a part -/
def partRow (old : Array Value) (off : Nat) (cells : Array Value) : Array Value := (old.toList.take off ++ cells.toList ++ old.toList.drop (off + cells.toList.length)).toArray
theorem run_storeVar_part (w : World) (g off : Nat) (t ty : TypeId) (old cells : Array Value) (hg : w.heap[g]? = some (.cells old t (0, 0))) (hi : (P.info? ty).map (·.size) = some cells.size)
    (ho : off + cells.size ≤ old.size) (h1 : cells.all (·.oneCell') = true) :
    (storeVar ty ⟨g, off, none⟩ (.agg cells)).run P w = .ok () (w.setRow g (partRow old off cells)) := by
  have := run_storeCells_at (P := P) g off t cells.toList 0 old w hg (by simp; omega) (fun v hv => (Array.all_eq_true_iff_forall_mem.1 h1) v (by simpa using hv))
  simp only [Nat.add_zero] at this
  cases hq : P.info? ty with
  | none => simp [hq] at hi
  | some i =>
    have hs : cells.size = i.size := by simp [hq] at hi; omega
    simp only [partRow]
    simp [storeVar, sizeOf, typeInfo, hq, Value.cells, hs, this]
theorem wp_store_part {o : Oper} {a : Act} {w : World} {K : Act → World → Prop} {Q : Exit → Act → World → Prop} (ty : TypeId) (x y : Operand) (ho : o.op = .store ty x y)
    (g off : Nat) (cells : Array Value) (hx : a.eval x = .pointer (some ⟨g, off, none⟩)) (hy : a.eval y = .agg cells)
    (t : TypeId) (old : Array Value) (hg : w.heap[g]? = some (.cells old t (0, 0))) (hi : (P.info? ty).map (·.size) = some cells.size)
    (hold : off + cells.size ≤ old.size) (h1 : cells.all (·.oneCell') = true)
    (h : K (a.put o.dst undef) (w.setRow g (partRow old off cells))) : o.wp P a w K Q := by
  unfold Oper.wp execOp
  simp only [ho, hx, hy, Instr.storeAt, Instr.sureAddr, Sem.run_bind, Sem.run_pure, Result.andThen_ok, run_storeVar_part w g off t ty old cells hg hi hold h1]
  exact h
end

section
variable {P : Program} {ops : Array Oper}
theorem step_load_part {o : Oper} {a : Act} {w : World} {K : Act → World → Prop} {Q : Exit → Act → World → Prop} {E : Prop} (hgd : o.guard = none) (ty : TypeId) (x : Operand) (ho : o.op = .load ty x)
    (g off : Nat) (hx : a.eval x = .pointer (some ⟨g, off, none⟩)) (cs : List Value) (d : TypeDesc) (hc : ∀ j v, cs[j]? = some v → w.cell? ⟨g, off + j, none⟩ = some v)
    (hu : P.underlying ty = some d) (hd : (match d with | .struct _ | .array _ _ => true | _ => false) = true) (hi : (P.info? ty).map (·.size) = some cs.length)
    (h : K (a.put o.dst (.agg cs.toArray)) w) : if Region.wanted o (yielded ops a.tmps) = true then Oper.wp P o a w K Q else E := by
  have hw : Region.wanted o (yielded ops a.tmps) = true := by simp [Region.wanted, hgd]
  rw [if_pos hw]
  exact wp_load_part ty x ho g off hx cs d hc hu hd hi h
theorem step_store_part {o : Oper} {a : Act} {w : World} {K : Act → World → Prop} {Q : Exit → Act → World → Prop} {E : Prop} (hgd : o.guard = none) (ty : TypeId) (x y : Operand) (ho : o.op = .store ty x y)
    (g off : Nat) (cells : Array Value) (hx : a.eval x = .pointer (some ⟨g, off, none⟩)) (hy : a.eval y = .agg cells)
    (t : TypeId) (old : Array Value) (hg : w.heap[g]? = some (.cells old t (0, 0))) (hi : (P.info? ty).map (·.size) = some cells.size)
    (hold : off + cells.size ≤ old.size) (h1 : cells.all (·.oneCell') = true)
    (h : K (a.put o.dst undef) (w.setRow g (partRow old off cells))) : if Region.wanted o (yielded ops a.tmps) = true then Oper.wp P o a w K Q else E := by
  have hw : Region.wanted o (yielded ops a.tmps) = true := by simp [Region.wanted, hgd]
  rw [if_pos hw]
  exact wp_store_part ty x y ho g off cells hx hy t old hg hi hold h1 h
end

/-- a row of m sets -/
structure SetsV (W : World) (B g m : Nat) (F : Nat → List Nat) : Prop where
  base : B ≤ g
  blk : ∃ cs, W.heap[g]? = some (.cells cs 29 (0, 0)) ∧ cs.size = m * 16 ∧ ∀ c, c < m → ∀ i, i < 16 → cs[c * 16 + i]? = some (.int .u64 ((F c).getD i 0 : Nat))
  len : ∀ c, c < m → (F c).length = 16 ∧ ∀ y ∈ F c, y < 2 ^ 64
theorem SetsV.moved {W W' : World} {B g m : Nat} {F : Nat → List Nat} (h : SetsV W B g m F) (hb : W'.heap[g]? = W.heap[g]?) : SetsV W' B g m F := by
  obtain ⟨h1, ⟨cs, h2, h3⟩, h4⟩ := h
  exact ⟨h1, ⟨cs, by rw [hb]; exact h2, h3⟩, h4⟩
theorem SetsV.lt {W : World} {B g m : Nat} {F : Nat → List Nat} (h : SetsV W B g m F) : g < W.heap.size := by
  obtain ⟨_, ⟨cs, h2, _⟩, _⟩ := h
  exact lt_of_block h2
theorem SetsV.cell {W : World} {B g m : Nat} {F : Nat → List Nat} (h : SetsV W B g m F) {c : Nat} (hc : c < m) : ∀ j v, (setA (F c)).toList[j]? = some v → W.cell? ⟨g, c * 16 + j, none⟩ = some v := fun j v hj => by
  obtain ⟨h1, ⟨cs, h2, h3, h4⟩, h5⟩ := h
  have hl := (h5 c hc).1
  have hj16 : j < 16 := by
    have := (List.getElem?_eq_some_iff.1 hj).1
    simp [setA, hl] at this; exact this
  rw [cell_of_row _ _ _ _ _ _ h2, h4 c hc j hj16]
  rw [Array.getElem?_toList, setA_get _ _ (by omega)] at hj
  exact hj
theorem setA_list_len (ws : List Nat) : (setA ws).toList.length = ws.length := by simp [setA]
theorem SetsV.stored {W : World} {B g m : Nat} {F : Nat → List Nat} (h : SetsV W B g m F) {c : Nat} (hc : c < m) {ws : List Nat} (hl : ws.length = 16) (h64 : ∀ y ∈ ws, y < 2 ^ 64) :
    ∃ old, W.heap[g]? = some (.cells old 29 (0, 0)) ∧ c * 16 + (setA ws).size ≤ old.size ∧ SetsV (W.setRow g (partRow old (c * 16) (setA ws))) B g m (fun d => if d = c then ws else F d) := by
  obtain ⟨h1, ⟨cs, h2, h3, h4⟩, h5⟩ := h
  have hcm : c * 16 + 16 ≤ m * 16 := by omega
  have hsz : (setA ws).size = 16 := by rw [setA_size, hl]
  refine ⟨cs, h2, by rw [hsz, h3]; exact hcm, h1, ⟨_, setRow_heap W g cs _ _ _ h2, ?_, fun d hd i hi => ?_⟩, fun d hd => ?_⟩
  · simp [partRow, setA, hl]; omega
  · unfold partRow
    rw [List.getElem?_toArray, setA_list_len, hl, List.append_assoc]
    by_cases e : d = c
    · subst e
      rw [List.getElem?_append_right (by simp; omega)]
      simp only [List.length_take, Array.length_toList, h3]
      rw [Nat.min_eq_left (by omega), show d * 16 + i - d * 16 = i by omega, List.getElem?_append_left (by rw [setA_list_len, hl]; exact hi), Array.getElem?_toList, setA_get _ _ (by omega)]
      simp
    · rw [if_neg e]
      by_cases hlt : d < c
      · rw [List.getElem?_append_left (by simp; omega), List.getElem?_take, if_pos (by omega), Array.getElem?_toList]
        exact h4 d hd i hi
      · rw [List.getElem?_append_right (by simp; omega), List.getElem?_append_right (by simp [setA, hl]; omega), List.getElem?_drop, Array.getElem?_toList]
        simp only [List.length_take, Array.length_toList, h3, hsz]
        rw [Nat.min_eq_left (by omega), show c * 16 + 16 + (d * 16 + i - c * 16 - 16) = d * 16 + i by omega]
        exact h4 d hd i hi
  · by_cases e : d = c
    · rw [if_pos e]; exact ⟨hl, h64⟩
    · rw [if_neg e]; exact h5 d hd
end

section
open Go.RowKit
set_option linter.unusedVariables false
set_option linter.unusedSimpArgs false

theorem arr16 (A : Array Value) (h : A.size = 16) : ∃ u0 u1 u2 u3 u4 u5 u6 u7 u8 u9 u10 u11 u12 u13 u14 u15, A = #[u0, u1, u2, u3, u4, u5, u6, u7, u8, u9, u10, u11, u12, u13, u14, u15] := by
  obtain ⟨l⟩ := A
  match l, h with
  | [u0, u1, u2, u3, u4, u5, u6, u7, u8, u9, u10, u11, u12, u13, u14, u15], _ => exact ⟨u0, u1, u2, u3, u4, u5, u6, u7, u8, u9, u10, u11, u12, u13, u14, u15, rfl⟩
theorem words16 (ws : List Nat) (h : ws.length = 16) : ∃ n0 n1 n2 n3 n4 n5 n6 n7 n8 n9 n10 n11 n12 n13 n14 n15 : Int, setA ws = #[.int .u64 n0, .int .u64 n1, .int .u64 n2, .int .u64 n3, .int .u64 n4, .int .u64 n5, .int .u64 n6, .int .u64 n7, .int .u64 n8, .int .u64 n9, .int .u64 n10, .int .u64 n11, .int .u64 n12, .int .u64 n13, .int .u64 n14, .int .u64 n15] := by
  match ws, h with
  | [n0, n1, n2, n3, n4, n5, n6, n7, n8, n9, n10, n11, n12, n13, n14, n15], _ => exact ⟨(n0 : Int), (n1 : Int), (n2 : Int), (n3 : Int), (n4 : Int), (n5 : Int), (n6 : Int), (n7 : Int), (n8 : Int), (n9 : Int), (n10 : Int), (n11 : Int), (n12 : Int), (n13 : Int), (n14 : Int), (n15 : Int), rfl⟩
theorem SetsV.cells16 {W : World} {B g m c : Nat} {F : Nat → List Nat} {u0 u1 u2 u3 u4 u5 u6 u7 u8 u9 u10 u11 u12 u13 u14 u15 : Value} (h : SetsV W B g m F) (hc : c < m) (hu : setA (F c) = #[u0, u1, u2, u3, u4, u5, u6, u7, u8, u9, u10, u11, u12, u13, u14, u15]) :
    W.cell? ⟨g, c * 16, none⟩ = some u0 ∧ W.cell? ⟨g, c * 16 + 1, none⟩ = some u1 ∧ W.cell? ⟨g, c * 16 + 2, none⟩ = some u2 ∧ W.cell? ⟨g, c * 16 + 3, none⟩ = some u3 ∧ W.cell? ⟨g, c * 16 + 4, none⟩ = some u4 ∧ W.cell? ⟨g, c * 16 + 5, none⟩ = some u5 ∧ W.cell? ⟨g, c * 16 + 6, none⟩ = some u6 ∧ W.cell? ⟨g, c * 16 + 7, none⟩ = some u7 ∧ W.cell? ⟨g, c * 16 + 8, none⟩ = some u8 ∧ W.cell? ⟨g, c * 16 + 9, none⟩ = some u9 ∧ W.cell? ⟨g, c * 16 + 10, none⟩ = some u10 ∧ W.cell? ⟨g, c * 16 + 11, none⟩ = some u11 ∧ W.cell? ⟨g, c * 16 + 12, none⟩ = some u12 ∧ W.cell? ⟨g, c * 16 + 13, none⟩ = some u13 ∧ W.cell? ⟨g, c * 16 + 14, none⟩ = some u14 ∧ W.cell? ⟨g, c * 16 + 15, none⟩ = some u15 := by
  have hk : ∀ (j : Nat) (v : Value), (setA (F c)).toList[j]? = some v → W.cell? ⟨g, c * 16 + j, none⟩ = some v := h.cell hc
  exact ⟨hk 0 u0 (by rw [hu]; rfl), hk 1 u1 (by rw [hu]; rfl), hk 2 u2 (by rw [hu]; rfl), hk 3 u3 (by rw [hu]; rfl), hk 4 u4 (by rw [hu]; rfl), hk 5 u5 (by rw [hu]; rfl), hk 6 u6 (by rw [hu]; rfl), hk 7 u7 (by rw [hu]; rfl), hk 8 u8 (by rw [hu]; rfl), hk 9 u9 (by rw [hu]; rfl), hk 10 u10 (by rw [hu]; rfl), hk 11 u11 (by rw [hu]; rfl), hk 12 u12 (by rw [hu]; rfl), hk 13 u13 (by rw [hu]; rfl), hk 14 u14 (by rw [hu]; rfl), hk 15 u15 (by rw [hu]; rfl)⟩
theorem SetsV.free {W : World} {B g m : Nat} {F : Nat → List Nat} (h : SetsV W B g m F) (j : Nat) : W.frozen? ⟨g, j, none⟩ = false := by
  obtain ⟨_, ⟨cs, h2, _⟩, _⟩ := h
  exact free_of_block h2
theorem setCells_row {w : World} {g off : Nat} {t : TypeId} {old cells : Array Value} (hg : w.heap[g]? = some (.cells old t (0, 0))) (ho : off + cells.size ≤ old.size) (h1 : cells.all (·.oneCell') = true) :
    w.setCells g off cells.toList = w.setRow g (partRow old off cells) := by
  have h1' : ∀ v ∈ cells.toList, v.oneCell' = true := fun v hv => (Array.all_eq_true_iff_forall_mem.1 h1) v (by simpa using hv)
  have e1 := run_storeCells_at (P := Tryd.prog) g off t cells.toList 0 old w hg (by simp; omega) h1'
  have e2 := run_storeCells_cells (P := Tryd.prog) g off cells.toList 0 w (fun j hj => by
    simp at hj
    rw [cell_of_row _ _ _ _ _ _ hg, Array.getElem?_eq_getElem (by omega)]; rfl) (fun j hj => free_of_block hg) h1'
  rw [e1] at e2
  simp only [Nat.add_zero] at e2
  injection e2 with _ e3
  exact e3.symm
theorem SetsV.setCells {W : World} {B g m : Nat} {F : Nat → List Nat} (h : SetsV W B g m F) {c : Nat} (hc : c < m) {ws : List Nat} (hl : ws.length = 16) (h64 : ∀ y ∈ ws, y < 2 ^ 64) {u0 u1 u2 u3 u4 u5 u6 u7 u8 u9 u10 u11 u12 u13 u14 u15 : Value} (hu : setA ws = #[u0, u1, u2, u3, u4, u5, u6, u7, u8, u9, u10, u11, u12, u13, u14, u15]) :
    SetsV (W.setCells g (c * 16) [u0, u1, u2, u3, u4, u5, u6, u7, u8, u9, u10, u11, u12, u13, u14, u15]) B g m (fun d => if d = c then ws else F d) := by
  obtain ⟨old, h1, h2, h3⟩ := h.stored hc hl h64
  rw [← setCells_row h1 h2 (setA_one _), hu] at h3
  exact h3
theorem below_setCells {B : Nat} {a : World} {g : Nat} (hg : B ≤ g) : ∀ (vs : List Value) (off : Nat) (w : World), Below B a w → Below B a (w.setCells g off vs)
  | [], _, _, h => h
  | v :: vs, off, w, h => below_setCells hg vs (off + 1) (w.setCell ⟨g, off, none⟩ v) (h.setCell (p := ⟨g, off, none⟩) hg v)
end

end Go.Proofs.YtijnekbhpdcemaaDoor
