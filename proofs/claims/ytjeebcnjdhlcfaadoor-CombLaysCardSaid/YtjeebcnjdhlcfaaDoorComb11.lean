/- What the document fixes of comb: the laws' wakes. -/
import Derived.Test.YtjeebcnjdhlcfaaDoorComb10
namespace Go.Proofs.YtjeebcnjdhlcfaaDoor
open Go.RowKit
set_option linter.unusedVariables false
set_option linter.unusedSimpArgs false

def pairC (p : Pr) : List Value := [.int .i64 p.1, .int .i64 p.2]
theorem flat2_get {α : Type} (f : α → List Value) (hf : ∀ x, (f x).length = 2) : ∀ (r : List α) (i j : Nat) (x : α), r[i]? = some x → j < 2 → (r.flatMap f)[i * 2 + j]? = (f x)[j]? := by
  intro r
  induction r with
  | nil => intro i j x h; simp at h
  | cons a t ih =>
    intro i j x h hj
    rw [List.flatMap_cons]
    cases i with
    | zero =>
      simp at h; subst h
      rw [Nat.zero_mul, Nat.zero_add, List.getElem?_append_left (by rw [hf]; exact hj)]
    | succ i =>
      rw [List.getElem?_append_right (by rw [hf]; omega), hf, show (i + 1) * 2 + j - 2 = i * 2 + j by omega]
      exact ih i j x (by simpa using h) hj
theorem PairsV.lit {w : World} {b : Nat} {T : TypeId} {fr : Nat × Nat} {r : List Pr} (hr : r.length ≤ 1000000) (h : w.heap[b]? = some (.cells (r.flatMap pairC).toArray T fr)) : PairsV w (.slice (some ⟨b, 0, none⟩) r.length r.length) r := by
  refine ⟨_, r.length, rfl, Nat.le_refl _, by omega, (fun e => by cases e), fun i x hx => ⟨b, 0, pairC x, rfl, rfl, rfl, fun j hj => ?_⟩⟩
  rw [cell_of_row _ _ _ _ _ _ h, Nat.zero_add, List.getElem?_toArray, flat2_get pairC (fun _ => rfl) r i j x hx hj, List.getD_eq_getElem?_getD]
  have : j < (pairC x).length := hj
  rw [List.getElem?_eq_getElem this]; rfl
theorem PRowsV.lit {w : World} {b : Nat} {T : TypeId} {fr : Nat × Nat} {vs : List Value} {rows : List (List Pr)} (hl : vs.length = rows.length) (hr : rows.length ≤ 1000000) (h : w.heap[b]? = some (.cells vs.toArray T fr)) (hv : ∀ i, i < rows.length → PairsV w (vs.getD i undef) (rowAt rows i)) : PRowsV w (.slice (some ⟨b, 0, none⟩) rows.length rows.length) rows := by
  refine ⟨_, rows.length, rfl, Nat.le_refl _, by omega, (fun e => by cases e), fun i x hx => ?_⟩
  have hi : i < rows.length := (List.getElem?_eq_some_iff.1 hx).1
  refine ⟨b, 0, [vs.getD i undef], rfl, rfl, ⟨_, rfl, ?_⟩, fun j hj => ?_⟩
  · have := hv i hi
    unfold rowAt at this
    rw [List.getD_eq_getElem?_getD (l := rows), hx] at this
    exact this
  · obtain rfl : j = 0 := by omega
    rw [cell_of_row _ _ _ _ _ _ h, Nat.zero_add, Nat.mul_one, Nat.add_zero, List.getElem?_toArray, List.getElem?_eq_getElem (by omega)]
    show _ = some (vs.getD i undef)
    rw [List.getD_eq_getElem?_getD, List.getElem?_eq_getElem (by omega)]; rfl

def rowsW : List (List Pr) := [[(0, 5), (2, 6)], [(1, 7)]]
theorem rowsW_order : orderS rowsW = [0, 1] := by
  refine order_unique (orderS_is rowsW) ⟨by decide +kernel, fun i => ?_⟩
  match i with
  | 0 => decide +kernel
  | 1 => decide +kernel
  | i + 2 =>
    constructor
    · intro h; simp at h
    · intro h; have := h.1; simp [rowsW] at this; omega
theorem rowsW_lay : layS rowsW = ([0, 0], [1, 2, 1], [5, 7, 6]) := by
  unfold layS
  rw [rowsW_order]
  decide +kernel
theorem rowsW_full : (fullS rowsW).length < 20 := by decide +kernel

structure CombEnv (w : World) : Prop where
  hg : 0 < w.heap.size
  tab : TabAt 0 Lib.deBruijn64tab w
theorem CombEnv.below {w w' : World} (h : CombEnv w) (hb : Below w.heap.size w w') : CombEnv w' :=
  ⟨Nat.lt_of_lt_of_le h.hg hb.size, fun j hj => (hb.cell (p := ⟨_, j, none⟩) h.hg).trans (h.tab j hj)⟩
theorem IntsV.lit {w : World} {b : Nat} {T : TypeId} {fr : Nat × Nat} {l : List Int} (hl : l.length ≤ 1000000) (h : w.heap[b]? = some (.cells (l.map (Value.int .i64)).toArray T fr)) : IntsV w (.slice (some ⟨b, 0, none⟩) l.length l.length) l := by
  refine IntsV.mk rfl (Nat.le_refl _) (by omega) (fun i hi => ⟨b, 0, rfl, ?_⟩)
  rw [cell_of_row _ _ _ _ _ _ h, Nat.zero_add, List.getElem?_toArray, List.getElem?_map, List.getElem?_eq_getElem hi, List.getD_eq_getElem?_getD, List.getElem?_eq_getElem hi]; rfl

/-- comb.Lay, its answer an aggregate in hand -/
theorem layC_any {v : Value} {rows : List (List Pr)} {w : World} (h : PRowsV w v rows) (hl : (fullS rows).length < 20) (hE : CombEnv w) :
    Calls Tryd.prog 13 #[v] w fun e w' => ∃ ba bn bc va vn vc ka kn kc, e = .returned (.agg #[.slice ba bn bc, .slice va vn vc, .slice ka kn kc]) ∧ CombV w' (.agg #[.slice ba bn bc, .slice va vn vc, .slice ka kn kc]) (layS rows) ∧ Below w.heap.size w w' :=
  (lay_any v rows w h hl hE.hg hE.tab).mono (fun e w' ⟨⟨bv, vv, kv, he, h1, h2, h3⟩, hb⟩ => by
    obtain ⟨ba, bn, bc, rfl, _⟩ := h1.open
    obtain ⟨va, vn, vc, rfl, _⟩ := h2.open
    obtain ⟨ka, kn, kc, rfl, _⟩ := h3.open
    exact ⟨_, _, _, _, _, _, _, _, _, he, ⟨_, _, _, rfl, h1, h2, h3⟩, hb⟩)

set_option maxRecDepth 100000 in
set_option maxHeartbeats 4000000 in
theorem wakes_any (w : World) (hE : CombEnv w) : Calls Tryd.prog 9 #[] w fun e w' => e = .returned (.bool true) ∧ Below w.heap.size w w' := by
  have HE := Lib.hid hE
  have hb3 := (((Below.refl w.heap.size w).alloc (Nat.le_refl _) (.cells #[.int .i64 0, .int .i64 5, .int .i64 2, .int .i64 6] 39)).alloc (by simp) (.cells #[.int .i64 1, .int .i64 7] 39)).alloc (by simp; omega) (.cells #[.slice (some ⟨w.heap.size, 0, none⟩) 2 2, .slice (some ⟨w.heap.size + 1, 0, none⟩) 1 1] 35)
  have hrows : PRowsV (((w.alloc (.cells #[.int .i64 0, .int .i64 5, .int .i64 2, .int .i64 6] 39)).alloc (.cells #[.int .i64 1, .int .i64 7] 39)).alloc (.cells #[.slice (some ⟨w.heap.size, 0, none⟩) 2 2, .slice (some ⟨w.heap.size + 1, 0, none⟩) 1 1] 35)) (.slice (some ⟨w.heap.size + 1 + 1, 0, none⟩) 2 2) rowsW := by
    refine PRowsV.lit (T := 35) (fr := (0, 0)) (rows := rowsW) (vs := [.slice (some ⟨w.heap.size, 0, none⟩) 2 2, .slice (some ⟨w.heap.size + 1, 0, none⟩) 1 1]) rfl (by decide) ?_ (fun i hi => ?_)
    · have := heap_alloc_new ((w.alloc (.cells #[.int .i64 0, .int .i64 5, .int .i64 2, .int .i64 6] 39)).alloc (.cells #[.int .i64 1, .int .i64 7] 39)) (.cells #[.slice (some ⟨w.heap.size, 0, none⟩) 2 2, .slice (some ⟨w.heap.size + 1, 0, none⟩) 1 1] 35)
      simpa using this
    · match i, hi with
      | 0, _ =>
        refine PairsV.lit (r := [(0, 5), (2, 6)]) (by decide) (T := 39) (fr := (0, 0)) ?_
        rw [Below.heap_alloc _ _ _ (by simp; omega), Below.heap_alloc _ _ _ (by simp), heap_alloc_new]; rfl
      | 1, _ =>
        refine PairsV.lit (r := [(1, 7)]) (by decide) (T := 39) (fr := (0, 0)) ?_
        rw [Below.heap_alloc _ _ _ (by simp)]
        have := heap_alloc_new (w.alloc (.cells #[.int .i64 0, .int .i64 5, .int .i64 2, .int .i64 6] 39)) (.cells #[.int .i64 1, .int .i64 7] 39)
        rw [show (w.alloc (.cells #[.int .i64 0, .int .i64 5, .int .i64 2, .int .i64 6] 39)).heap.size = w.heap.size + 1 by simp] at this
        exact this
  have HL := Lib.hid (layC_any hrows rowsW_full (hE.below hb3))
  clear hE hrows
  go_enter Tryd.func9, Tryd.ntmps9
  go_wp2_with fail
  refine HL.out.mono ?_
  rintro e w1 ⟨ba, bn, bc, va, vn, vc, ka, kn, kc, rfl, hC, hb1⟩
  have hw1 := hb3.trans (hb1.mono hb3.size)
  rw [rowsW_lay] at hC
  have hbox := (Below.refl w1.heap.size w1).alloc (Nat.le_refl _) (.cells #[.slice ba bn bc, .slice va vn vc, .slice ka kn kc] 30)
  have hG1 := Lib.hid (fun (W : World) (hW : Below w1.heap.size w1 W) => get_any _ _ 1 1 W (hC.below hW) rfl (fun i => by
    match i with
    | 0 => decide
    | 1 => decide
    | i + 2 => simp) (fun _ => by decide))
  have hG2 := Lib.hid (fun (W : World) (hW : Below w1.heap.size w1 W) => get_any _ _ 1 0 W (hC.below hW) rfl (fun i => by
    match i with
    | 0 => decide
    | 1 => decide
    | i + 2 => simp) (fun _ => by decide))
  have g1 : combGet (([0, 0], [1, 2, 1], [5, 7, 6]) : CombS) 1 1 = (7, true) := by decide +kernel
  have g2 : combGet (([0, 0], [1, 2, 1], [5, 7, 6]) : CombS) 1 0 = (0, false) := by decide +kernel
  rw [g1] at hG1
  rw [g2] at hG2
  have hC0 := Lib.hid hC
  have hw1s := hw1.size
  clear HL hb1 hC g1 g2
  go_wp2_with fail
  refine (hG1.out _ hbox).mono ?_
  rintro e w2 ⟨rfl, hb2⟩
  have hcc : ∀ (W : World) (i : Nat) (u : Value), Below (w1.alloc (.cells #[.slice ba bn bc, .slice va vn vc, .slice ka kn kc] 30)).heap.size (w1.alloc (.cells #[.slice ba bn bc, .slice va vn vc, .slice ka kn kc] 30)) W → #[Value.slice ba bn bc, Value.slice va vn vc, Value.slice ka kn kc][i]? = some u → W.cell? ⟨w1.heap.size, i, none⟩ = some u := fun W i u hW hu => by
    rw [hW.cell (p := ⟨w1.heap.size, i, none⟩) (by simp), World.cell?_alloc_at _ _ _ _ rfl]; exact hu
  have HCC := Lib.hid hcc
  have p0 := hcc w2 0 _ hb2 rfl
  have p1 := hcc w2 1 _ hb2 rfl
  have p2 := hcc w2 2 _ hb2 rfl
  have hbx2 := hbox.trans (hb2.mono hbox.size)
  clear hcc
  go_wp2_with fail
  refine (hG2.out _ hbx2).mono ?_
  rintro e w3 ⟨rfl, hb3'⟩
  have hb23 := hb2.trans (hb3'.mono hb2.size)
  have hbx3 := hbx2.trans (hb3'.mono hbx2.size)
  have q0 := HCC.out w3 0 _ hb23 rfl
  have q1 := HCC.out w3 1 _ hb23 rfl
  have q2 := HCC.out w3 2 _ hb23 rfl
  clear p0 p1 p2 hb2 hb3' hbx2
  have hal := ((Below.refl w3.heap.size w3).alloc (Nat.le_refl _) (.cells #[.int .i64 0, .int .i64 0] 3)).alloc (by simp) (.cells #[.int .i64 5, .int .i64 7, .int .i64 6] 3)
  have hal3 := hal.alloc (by simp; omega) (.cells #[.int .i64 1, .int .i64 2, .int .i64 1] 3)
  have hlit : CombV (((w3.alloc (.cells #[.int .i64 0, .int .i64 0] 3)).alloc (.cells #[.int .i64 5, .int .i64 7, .int .i64 6] 3)).alloc (.cells #[.int .i64 1, .int .i64 2, .int .i64 1] 3)) (.agg #[.slice (some ⟨w3.heap.size, 0, none⟩) 2 2, .slice (some ⟨w3.heap.size + 1, 0, none⟩) 3 3, .slice (some ⟨w3.heap.size + 1 + 1, 0, none⟩) 3 3]) ([0, 0], [1, 2, 1], [5, 7, 6]) := by
    refine ⟨_, _, _, rfl, ?_, ?_, ?_⟩
    · refine IntsV.lit (l := [0, 0]) (T := 3) (fr := (0, 0)) (by decide) ?_
      rw [Below.heap_alloc _ _ _ (by simp; omega), Below.heap_alloc _ _ _ (by simp), heap_alloc_new]; rfl
    · refine IntsV.lit (l := [5, 7, 6]) (T := 3) (fr := (0, 0)) (by decide) ?_
      rw [Below.heap_alloc _ _ _ (by simp)]
      have := heap_alloc_new (w3.alloc (.cells #[.int .i64 0, .int .i64 0] 3)) (.cells #[.int .i64 5, .int .i64 7, .int .i64 6] 3)
      simpa using this
    · refine IntsV.lit (l := [1, 2, 1]) (T := 3) (fr := (0, 0)) (by decide) ?_
      have := heap_alloc_new ((w3.alloc (.cells #[.int .i64 0, .int .i64 0] 3)).alloc (.cells #[.int .i64 5, .int .i64 7, .int .i64 6] 3)) (.cells #[.int .i64 1, .int .i64 2, .int .i64 1] 3)
      simpa using this
  have HQ := Lib.hid (eqComb_any _ _ _ _ _ ((hC0.out.below hbx3).below hal3) hlit)
  rw [eqCombB_refl] at HQ
  have hwf := (hw1.trans (hbx3.mono hw1s)).trans (hal3.mono (by have := hbx3.size; omega))
  clear hlit hal hal3
  go_wp2_with fail
  refine HQ.out.mono ?_
  rintro e w4 ⟨rfl, hb4⟩
  have hwe := hwf.trans (hb4.mono hwf.size)
  clear hwf hb4
  go_wp2_with fail
  go_ret
  exact ⟨rfl, hwe⟩
end Go.Proofs.YtjeebcnjdhlcfaaDoor
