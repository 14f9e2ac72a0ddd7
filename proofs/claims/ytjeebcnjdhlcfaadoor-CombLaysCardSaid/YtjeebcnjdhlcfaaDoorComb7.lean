/- The memory of comb.Lay: the comb's three rows, the places, all apart. -/
import Derived.Test.YtjeebcnjdhlcfaaDoorComb6
namespace Go.Proofs.YtjeebcnjdhlcfaaDoor
open Go.RowKit
set_option linter.unusedVariables false
set_option linter.unusedSimpArgs false

/-- blocks told apart -/
def Apart (f : Nat → Option Nat) : Prop := ∀ i j, i ≠ j → ∀ k, f i = some k → f j ≠ some k
theorem Apart.set {f f' : Nat → Option Nat} (h : Apart f) (i H : Nat) (hlt : ∀ j k, f j = some k → k < H) (hx : f' i = f i ∨ ∀ k, f' i = some k → H ≤ k) (hf : ∀ j, j ≠ i → f' j = f j) : Apart f' := by
  intro a b hab k ha hb
  rcases hx with hx | hx
  · have e : ∀ j, f' j = f j := fun j => by
      by_cases e : j = i
      · rw [e]; exact hx
      · exact hf j e
    rw [e] at ha hb
    exact h a b hab k ha hb
  · by_cases e1 : a = i
    · subst e1
      rw [hf b (Ne.symm hab)] at hb
      have := hx k ha
      have := hlt b k hb
      omega
    · rw [hf a e1] at ha
      by_cases e2 : b = i
      · subst e2
        have := hx k hb
        have := hlt a k ha
        omega
      · rw [hf b e2] at hb
        exact h a b hab k ha hb

def own9 (a b c d e f g h x : Option Nat) (i : Nat) : Option Nat := match i with | 0 => a | 1 => b | 2 => c | 3 => d | 4 => e | 5 => f | 6 => g | 7 => h | 8 => x | _ => none

/-- a cell that holds a row of the call's -/
structure SlotRow (w : World) (B : Nat) (a : Addr) (v : Value) (l : List Int) : Prop where
  cell : w.cell? a = some v
  own : w.ownsRow B 3 1 v l.length (l.map (Value.int .i64))
theorem SlotRow.keep {w w' : World} {B : Nat} {a : Addr} {v : Value} {l : List Int} (h : SlotRow w B a v l) (hc : w'.cell? a = w.cell? a) (hr : ∀ k, v.ownBlock = some k → w'.heap[k]? = w.heap[k]?) : SlotRow w' B a v l := ⟨hc.trans h.cell, row_kept h.own hr⟩

structure LayV (w : World) (B : Nat) (q : Option Nat) (qo : Obj) (z : Option Nat) (zo : Obj) (r c t : Nat) (bv vv kv tv : Value) (bs chk val : List Int) (ws : List Nat) : Prop where
  res : w.heap[r]? = some (.cells #[.slice none 0 0, .slice none 0 0, .slice none 0 0] 30 (0, 0))
  free : ∀ j, w.frozen? ⟨c, j, none⟩ = false
  clt : c < w.heap.size
  tlt : t < w.heap.size
  cB : B ≤ c
  tB : B ≤ t
  rB : B ≤ r
  sb : SlotRow w B ⟨c, 0, none⟩ bv bs
  sv : SlotRow w B ⟨c, 1, none⟩ vv val
  sk : SlotRow w B ⟨c, 2, none⟩ kv chk
  pl : PlacesV w B t tv ws
  gst : ∀ k, q = some k → B ≤ k ∧ w.heap[k]? = some qo
  hst : ∀ k, z = some k → B ≤ k ∧ w.heap[k]? = some zo
  ap : Apart (own9 (some r) (some c) (some t) bv.ownBlock vv.ownBlock kv.ownBlock tv.ownBlock q z)

section
variable {w w' w2 : World} {B r c t : Nat} {q : Option Nat} {qo : Obj} {z : Option Nat} {zo : Obj} {bv vv kv tv : Value} {bs chk val : List Int} {ws : List Nat}
theorem LayV.lt (h : LayV w B q qo z zo r c t bv vv kv tv bs chk val ws) : ∀ j k, own9 (some r) (some c) (some t) bv.ownBlock vv.ownBlock kv.ownBlock tv.ownBlock q z j = some k → k < w.heap.size := by
  intro j k hk
  match j, hk with
  | 0, hk => cases hk; exact (Array.getElem?_eq_some_iff.1 h.res).1
  | 1, hk => cases hk; exact h.clt
  | 2, hk => cases hk; exact h.tlt
  | 3, hk => exact (h.sb.own.lt k hk).2
  | 4, hk => exact (h.sv.own.lt k hk).2
  | 5, hk => exact (h.sk.own.lt k hk).2
  | 6, hk => exact (h.pl.own.lt k hk).2
  | 7, hk => exact (Array.getElem?_eq_some_iff.1 (h.gst k hk).2).1
  | 8, hk => exact (Array.getElem?_eq_some_iff.1 (h.hst k hk).2).1
theorem LayV.ge (h : LayV w B q qo z zo r c t bv vv kv tv bs chk val ws) : ∀ j k, own9 (some r) (some c) (some t) bv.ownBlock vv.ownBlock kv.ownBlock tv.ownBlock q z j = some k → B ≤ k := by
  intro j k hk
  match j, hk with
  | 0, hk => cases hk; exact h.rB
  | 1, hk => cases hk; exact h.cB
  | 2, hk => cases hk; exact h.tB
  | 3, hk => exact (h.sb.own.lt k hk).1
  | 4, hk => exact (h.sv.own.lt k hk).1
  | 5, hk => exact (h.sk.own.lt k hk).1
  | 6, hk => exact (h.pl.own.lt k hk).1
  | 7, hk => exact (h.gst k hk).1
  | 8, hk => exact (h.hst k hk).1
theorem LayV.same (h : LayV w B q qo z zo r c t bv vv kv tv bs chk val ws) (hs : w.heap.size ≤ w'.heap.size) (hk : ∀ j k, own9 (some r) (some c) (some t) bv.ownBlock vv.ownBlock kv.ownBlock tv.ownBlock q z j = some k → w'.heap[k]? = w.heap[k]?) : LayV w' B q qo z zo r c t bv vv kv tv bs chk val ws := by
  have hc := hk 1 c rfl
  exact {
    res := (hk 0 r rfl).trans h.res
    free := fun j => (World.frozen?_of_block (a := ⟨c, j, none⟩) hc).trans (h.free j)
    clt := Nat.lt_of_lt_of_le h.clt hs
    tlt := Nat.lt_of_lt_of_le h.tlt hs
    cB := h.cB
    tB := h.tB
    rB := h.rB
    sb := h.sb.keep (World.cell?_of_block (a := ⟨c, 0, none⟩) hc) (hk 3)
    sv := h.sv.keep (World.cell?_of_block (a := ⟨c, 1, none⟩) hc) (hk 4)
    sk := h.sk.keep (World.cell?_of_block (a := ⟨c, 2, none⟩) hc) (hk 5)
    pl := h.pl.turn (fun b hb => hb.elim (fun e => by rw [e]; exact hk 2 t rfl) (fun e => hk 6 b e))
    gst := fun k hq => ⟨(h.gst k hq).1, (hk 7 k hq).trans (h.gst k hq).2⟩
    hst := fun k hq => ⟨(h.hst k hq).1, (hk 8 k hq).trans (h.hst k hq).2⟩
    ap := h.ap }
theorem LayV.below (h : LayV w B q qo z zo r c t bv vv kv tv bs chk val ws) (hb : Below w.heap.size w w') : LayV w' B q qo z zo r c t bv vv kv tv bs chk val ws :=
  h.same hb.size (fun j k hk => hb.block k (h.lt j k hk))
theorem LayV.placed {ws' : List Nat} {tv' : Value} (h : LayV w B q qo z zo r c t bv vv kv tv bs chk val ws) (hp : PlacesV w' B t tv' ws') (ht : Turns (fun b => b = t ∨ tv.ownBlock = some b) w w') (hv : tv'.ownBlock = tv.ownBlock ∨ ∀ b, tv'.ownBlock = some b → w.heap.size ≤ b) : LayV w' B q qo z zo r c t bv vv kv tv' bs chk val ws' := by
  have hk : ∀ j k, j ≠ 2 → j ≠ 6 → own9 (some r) (some c) (some t) bv.ownBlock vv.ownBlock kv.ownBlock tv.ownBlock q z j = some k → w'.heap[k]? = w.heap[k]? := fun j k h2 h6 hk =>
    ht.block k (h.lt j k hk) (fun e => by
      rcases e with e | e
      · exact h.ap j 2 h2 k hk (by rw [e]; rfl)
      · exact h.ap j 6 h6 k hk e)
  have hc := hk 1 c (by omega) (by omega) rfl
  exact {
    res := (hk 0 r (by omega) (by omega) rfl).trans h.res
    free := fun j => (World.frozen?_of_block (a := ⟨c, j, none⟩) hc).trans (h.free j)
    clt := Nat.lt_of_lt_of_le h.clt ht.size
    tlt := Nat.lt_of_lt_of_le h.tlt ht.size
    cB := h.cB
    tB := h.tB
    rB := h.rB
    sb := h.sb.keep (World.cell?_of_block (a := ⟨c, 0, none⟩) hc) (fun k => hk 3 k (by omega) (by omega))
    sv := h.sv.keep (World.cell?_of_block (a := ⟨c, 1, none⟩) hc) (fun k => hk 4 k (by omega) (by omega))
    sk := h.sk.keep (World.cell?_of_block (a := ⟨c, 2, none⟩) hc) (fun k => hk 5 k (by omega) (by omega))
    pl := hp
    gst := fun k hq => ⟨(h.gst k hq).1, (hk 7 k (by omega) (by omega) hq).trans (h.gst k hq).2⟩
    hst := fun k hq => ⟨(h.hst k hq).1, (hk 8 k (by omega) (by omega) hq).trans (h.hst k hq).2⟩
    ap := h.ap.set 6 w.heap.size h.lt hv (fun j hj => by match j, hj with | 0, _ => rfl | 1, _ => rfl | 2, _ => rfl | 3, _ => rfl | 4, _ => rfl | 5, _ => rfl | 6, hj => exact absurd rfl hj | 7, _ => rfl | 8, _ => rfl | (n + 9), _ => rfl) }
theorem cell_ne {w : World} {c i j : Nat} (h : i ≠ j) (u : Value) : (w.setCell ⟨c, i, none⟩ u).cell? ⟨c, j, none⟩ = w.cell? ⟨c, j, none⟩ :=
  World.cell?_setCell_other _ _ _ _ (by intro e; injection e; exact h ‹_›)
/-- what turned when a row of the comb's grew and was put back into its cell: all other blocks stand -/
theorem grew_same (h : LayV w B q qo z zo r c t bv vv kv tv bs chk val ws) {o : Obj} {x y : Value} {i m : Nat} (hi : own9 (some r) (some c) (some t) bv.ownBlock vv.ownBlock kv.ownBlock tv.ownBlock q z i = x.ownBlock) (hi1 : i ≠ 1) (hg : (w.alloc o).grownBy w2 x.ownBlock)
    (hl : y.ownBlock = x.ownBlock ∨ y.ownBlock = some (w.heap.size + 1)) :
    w2.heap[c]? = w.heap[c]? ∧ (∀ j k, j ≠ 1 → j ≠ i → own9 (some r) (some c) (some t) bv.ownBlock vv.ownBlock kv.ownBlock tv.ownBlock q z j = some k → (w2.setCell ⟨c, m, none⟩ y).heap[k]? = w.heap[k]?) ∧ w.heap.size ≤ (w2.setCell ⟨c, m, none⟩ y).heap.size ∧ y.ownBlock ≠ some c := by
  have hk : ∀ j k, j ≠ i → own9 (some r) (some c) (some t) bv.ownBlock vv.ownBlock kv.ownBlock tv.ownBlock q z j = some k → w2.heap[k]? = w.heap[k]? := fun j k hj hk => by
    have hlt := h.lt j k hk
    exact (hg.block k (by simp; omega) (fun e => h.ap j i hj k hk (by rw [hi]; exact e.symm))).trans (Below.heap_alloc w o k hlt)
  refine ⟨hk 1 c (Ne.symm hi1) rfl, fun j k h1 hj hk' => ?_, ?_, ?_⟩
  · rw [Below.heap_setCell _ _ _ _ (fun e => h.ap j 1 h1 k hk' (by rw [e]; rfl))]
    exact hk j k hj hk'
  · have := hg.size
    simp at this
    simp [World.setCell]; omega
  · rcases hl with e | e
    · rw [e, ← hi]; exact fun e2 => h.ap i 1 hi1 c e2 rfl
    · rw [e]; intro e2; injection e2 with e3; have := h.clt; omega
theorem LayV.pushV {o : Obj} {y : Value} {val' : List Int} (h : LayV w B q qo z zo r c t bv vv kv tv bs chk val ws) (hg : (w.alloc o).grownBy w2 vv.ownBlock) (ho : w2.ownsRow B 3 1 y val'.length (val'.map (Value.int .i64))) (hl : y.ownBlock = vv.ownBlock ∨ y.ownBlock = some (w.heap.size + 1)) :
    w2.cell? ⟨c, 1, none⟩ = some vv ∧ w2.frozen? ⟨c, 1, none⟩ = false ∧ LayV (w2.setCell ⟨c, 1, none⟩ y) B q qo z zo r c t bv y kv tv bs chk val' ws := by
  obtain ⟨hc, hk, hs, hy⟩ := grew_same (m := 1) h (x := vv) (i := 4) rfl (by omega) hg hl
  have hc1 : w2.cell? ⟨c, 1, none⟩ = some vv := (World.cell?_of_block (a := ⟨c, 1, none⟩) hc).trans h.sv.cell
  have hfr : ∀ j, w2.frozen? ⟨c, j, none⟩ = false := fun j => (World.frozen?_of_block (a := ⟨c, j, none⟩) hc).trans (h.free j)
  refine ⟨hc1, hfr 1, ?_⟩
  exact {
    res := (hk 0 r (by omega) (by omega) rfl).trans h.res
    free := fun j => by rw [World.frozen?_setCell]; exact hfr j
    clt := Nat.lt_of_lt_of_le h.clt hs
    tlt := Nat.lt_of_lt_of_le h.tlt hs
    cB := h.cB
    tB := h.tB
    rB := h.rB
    sb := h.sb.keep ((cell_ne (by omega) _).trans (World.cell?_of_block (a := ⟨c, 0, none⟩) hc)) (fun k => hk 3 k (by omega) (by omega))
    sv := ⟨World.cell?_setCell_same _ _ _ hc1, row_kept ho (fun k hk' => Below.heap_setCell _ _ _ _ (fun e => hy (by rw [hk', e])))⟩
    sk := h.sk.keep ((cell_ne (by omega) _).trans (World.cell?_of_block (a := ⟨c, 2, none⟩) hc)) (fun k => hk 5 k (by omega) (by omega))
    pl := h.pl.turn (fun b hb => hb.elim (fun e => by rw [e]; exact hk 2 t (by omega) (by omega) rfl) (fun e => hk 6 b (by omega) (by omega) e))
    gst := fun k hq => ⟨(h.gst k hq).1, (hk 7 k (by omega) (by omega) hq).trans (h.gst k hq).2⟩
    hst := fun k hq => ⟨(h.hst k hq).1, (hk 8 k (by omega) (by omega) hq).trans (h.hst k hq).2⟩
    ap := h.ap.set 4 w.heap.size h.lt (hl.imp id (fun e k hk => by
      have e2 : some (w.heap.size + 1) = some k := e.symm.trans hk
      injection e2; omega)) (fun j hj => by match j, hj with | 0, _ => rfl | 1, _ => rfl | 2, _ => rfl | 3, _ => rfl | 4, hj => exact absurd rfl hj | 5, _ => rfl | 6, _ => rfl | 7, _ => rfl | 8, _ => rfl | (n + 9), _ => rfl) }
theorem LayV.pushK {o : Obj} {y : Value} {chk' : List Int} (h : LayV w B q qo z zo r c t bv vv kv tv bs chk val ws) (hg : (w.alloc o).grownBy w2 kv.ownBlock) (ho : w2.ownsRow B 3 1 y chk'.length (chk'.map (Value.int .i64))) (hl : y.ownBlock = kv.ownBlock ∨ y.ownBlock = some (w.heap.size + 1)) :
    w2.cell? ⟨c, 2, none⟩ = some kv ∧ w2.frozen? ⟨c, 2, none⟩ = false ∧ LayV (w2.setCell ⟨c, 2, none⟩ y) B q qo z zo r c t bv vv y tv bs chk' val ws := by
  obtain ⟨hc, hk, hs, hy⟩ := grew_same (m := 2) h (x := kv) (i := 5) rfl (by omega) hg hl
  have hc1 : w2.cell? ⟨c, 2, none⟩ = some kv := (World.cell?_of_block (a := ⟨c, 2, none⟩) hc).trans h.sk.cell
  have hfr : ∀ j, w2.frozen? ⟨c, j, none⟩ = false := fun j => (World.frozen?_of_block (a := ⟨c, j, none⟩) hc).trans (h.free j)
  refine ⟨hc1, hfr 2, ?_⟩
  exact {
    res := (hk 0 r (by omega) (by omega) rfl).trans h.res
    free := fun j => by rw [World.frozen?_setCell]; exact hfr j
    clt := Nat.lt_of_lt_of_le h.clt hs
    tlt := Nat.lt_of_lt_of_le h.tlt hs
    cB := h.cB
    tB := h.tB
    rB := h.rB
    sb := h.sb.keep ((cell_ne (by omega) _).trans (World.cell?_of_block (a := ⟨c, 0, none⟩) hc)) (fun k => hk 3 k (by omega) (by omega))
    sv := h.sv.keep ((cell_ne (by omega) _).trans (World.cell?_of_block (a := ⟨c, 1, none⟩) hc)) (fun k => hk 4 k (by omega) (by omega))
    sk := ⟨World.cell?_setCell_same _ _ _ hc1, row_kept ho (fun k hk' => Below.heap_setCell _ _ _ _ (fun e => hy (by rw [hk', e])))⟩
    pl := h.pl.turn (fun b hb => hb.elim (fun e => by rw [e]; exact hk 2 t (by omega) (by omega) rfl) (fun e => hk 6 b (by omega) (by omega) e))
    gst := fun k hq => ⟨(h.gst k hq).1, (hk 7 k (by omega) (by omega) hq).trans (h.gst k hq).2⟩
    hst := fun k hq => ⟨(h.hst k hq).1, (hk 8 k (by omega) (by omega) hq).trans (h.hst k hq).2⟩
    ap := h.ap.set 5 w.heap.size h.lt (hl.imp id (fun e k hk => by
      have e2 : some (w.heap.size + 1) = some k := e.symm.trans hk
      injection e2; omega)) (fun j hj => by match j, hj with | 0, _ => rfl | 1, _ => rfl | 2, _ => rfl | 3, _ => rfl | 4, _ => rfl | 5, hj => exact absurd rfl hj | 6, _ => rfl | 7, _ => rfl | 8, _ => rfl | (n + 9), _ => rfl) }

/-- a number stored into a row -/
theorem row_set {g cap : Nat} {l : List Int} (h : w.ownsRow B 3 1 (.slice (some ⟨g, 0, none⟩) l.length cap) l.length (l.map (Value.int .i64))) (j : Nat) (x : Int) :
    (w.setCell ⟨g, j, none⟩ (.int .i64 x)).ownsRow B 3 1 (.slice (some ⟨g, 0, none⟩) l.length cap) (l.set j x).length ((l.set j x).map (Value.int .i64)) := by
  have := (h.stored j (.int .i64 x)).1
  rw [List.length_set, List.map_set]; exact this
theorem set_same (h : LayV w B q qo z zo r c t bv vv kv tv bs chk val ws) {i g m : Nat} {x : Value} (hi : own9 (some r) (some c) (some t) bv.ownBlock vv.ownBlock kv.ownBlock tv.ownBlock q z i = some g) :
    ∀ j k, j ≠ i → own9 (some r) (some c) (some t) bv.ownBlock vv.ownBlock kv.ownBlock tv.ownBlock q z j = some k → (w.setCell ⟨g, m, none⟩ x).heap[k]? = w.heap[k]? := fun j k hj hk =>
  Below.heap_setCell _ _ _ _ (fun e => h.ap j i hj k hk (by rw [hi, e]))
theorem LayV.setV {g cap : Nat} (h : LayV w B q qo z zo r c t bv (.slice (some ⟨g, 0, none⟩) val.length cap) kv tv bs chk val ws) (j : Nat) (x : Int) :
    LayV (w.setCell ⟨g, j, none⟩ (.int .i64 x)) B q qo z zo r c t bv (.slice (some ⟨g, 0, none⟩) val.length cap) kv tv bs chk (val.set j x) ws := by
  have hk := set_same h (i := 4) (g := g) (m := j) (x := .int .i64 x) rfl
  have hc := hk 1 c (by omega) rfl
  have hs : w.heap.size ≤ (w.setCell ⟨g, j, none⟩ (.int .i64 x)).heap.size := by simp [World.setCell]
  exact {
    res := (hk 0 r (by omega) rfl).trans h.res
    free := fun j => (World.frozen?_of_block (a := ⟨c, j, none⟩) hc).trans (h.free j)
    clt := Nat.lt_of_lt_of_le h.clt hs
    tlt := Nat.lt_of_lt_of_le h.tlt hs
    cB := h.cB
    tB := h.tB
    rB := h.rB
    sb := h.sb.keep (World.cell?_of_block (a := ⟨c, 0, none⟩) hc) (fun k => hk 3 k (by omega))
    sv := ⟨(World.cell?_of_block (a := ⟨c, 1, none⟩) hc).trans h.sv.cell, row_set h.sv.own j x⟩
    sk := h.sk.keep (World.cell?_of_block (a := ⟨c, 2, none⟩) hc) (fun k => hk 5 k (by omega))
    pl := h.pl.turn (fun b hb => hb.elim (fun e => by rw [e]; exact hk 2 t (by omega) rfl) (fun e => hk 6 b (by omega) e))
    gst := fun k hq => ⟨(h.gst k hq).1, (hk 7 k (by omega) hq).trans (h.gst k hq).2⟩
    hst := fun k hq => ⟨(h.hst k hq).1, (hk 8 k (by omega) hq).trans (h.hst k hq).2⟩
    ap := h.ap }
theorem LayV.setK {g cap : Nat} (h : LayV w B q qo z zo r c t bv vv (.slice (some ⟨g, 0, none⟩) chk.length cap) tv bs chk val ws) (j : Nat) (x : Int) :
    LayV (w.setCell ⟨g, j, none⟩ (.int .i64 x)) B q qo z zo r c t bv vv (.slice (some ⟨g, 0, none⟩) chk.length cap) tv bs (chk.set j x) val ws := by
  have hk := set_same h (i := 5) (g := g) (m := j) (x := .int .i64 x) rfl
  have hc := hk 1 c (by omega) rfl
  have hs : w.heap.size ≤ (w.setCell ⟨g, j, none⟩ (.int .i64 x)).heap.size := by simp [World.setCell]
  exact {
    res := (hk 0 r (by omega) rfl).trans h.res
    free := fun j => (World.frozen?_of_block (a := ⟨c, j, none⟩) hc).trans (h.free j)
    clt := Nat.lt_of_lt_of_le h.clt hs
    tlt := Nat.lt_of_lt_of_le h.tlt hs
    cB := h.cB
    tB := h.tB
    rB := h.rB
    sb := h.sb.keep (World.cell?_of_block (a := ⟨c, 0, none⟩) hc) (fun k => hk 3 k (by omega))
    sv := h.sv.keep (World.cell?_of_block (a := ⟨c, 1, none⟩) hc) (fun k => hk 4 k (by omega))
    sk := ⟨(World.cell?_of_block (a := ⟨c, 2, none⟩) hc).trans h.sk.cell, row_set h.sk.own j x⟩
    pl := h.pl.turn (fun b hb => hb.elim (fun e => by rw [e]; exact hk 2 t (by omega) rfl) (fun e => hk 6 b (by omega) e))
    gst := fun k hq => ⟨(h.gst k hq).1, (hk 7 k (by omega) hq).trans (h.gst k hq).2⟩
    hst := fun k hq => ⟨(h.hst k hq).1, (hk 8 k (by omega) hq).trans (h.hst k hq).2⟩
    ap := h.ap }
theorem LayV.setB {g cap : Nat} (h : LayV w B q qo z zo r c t (.slice (some ⟨g, 0, none⟩) bs.length cap) vv kv tv bs chk val ws) (j : Nat) (x : Int) :
    LayV (w.setCell ⟨g, j, none⟩ (.int .i64 x)) B q qo z zo r c t (.slice (some ⟨g, 0, none⟩) bs.length cap) vv kv tv (bs.set j x) chk val ws := by
  have hk := set_same h (i := 3) (g := g) (m := j) (x := .int .i64 x) rfl
  have hc := hk 1 c (by omega) rfl
  have hs : w.heap.size ≤ (w.setCell ⟨g, j, none⟩ (.int .i64 x)).heap.size := by simp [World.setCell]
  exact {
    res := (hk 0 r (by omega) rfl).trans h.res
    free := fun j => (World.frozen?_of_block (a := ⟨c, j, none⟩) hc).trans (h.free j)
    clt := Nat.lt_of_lt_of_le h.clt hs
    tlt := Nat.lt_of_lt_of_le h.tlt hs
    cB := h.cB
    tB := h.tB
    rB := h.rB
    sb := ⟨(World.cell?_of_block (a := ⟨c, 0, none⟩) hc).trans h.sb.cell, row_set h.sb.own j x⟩
    sv := h.sv.keep (World.cell?_of_block (a := ⟨c, 1, none⟩) hc) (fun k => hk 4 k (by omega))
    sk := h.sk.keep (World.cell?_of_block (a := ⟨c, 2, none⟩) hc) (fun k => hk 5 k (by omega))
    pl := h.pl.turn (fun b hb => hb.elim (fun e => by rw [e]; exact hk 2 t (by omega) rfl) (fun e => hk 6 b (by omega) e))
    gst := fun k hq => ⟨(h.gst k hq).1, (hk 7 k (by omega) hq).trans (h.gst k hq).2⟩
    hst := fun k hq => ⟨(h.hst k hq).1, (hk 8 k (by omega) hq).trans (h.hst k hq).2⟩
    ap := h.ap }
/-- a block more, that none of the rows is -/
theorem LayV.guest (h : LayV w B q qo none zo r c t bv vv kv tv bs chk val ws) (o : Array Value) (T : TypeId) (hB : B ≤ w.heap.size) : LayV (w.alloc (.cells o T)) B q qo (some w.heap.size) (.cells o T (0, 0)) r c t bv vv kv tv bs chk val ws := by
  have h2 := h.below ((Below.refl w.heap.size w).alloc (Nat.le_refl _) (.cells o T))
  exact { h2 with
    hst := fun k hk => by
      injection hk with e
      subst e
      exact ⟨hB, heap_alloc_new _ _⟩
    ap := h.ap.set 8 w.heap.size h.lt (.inr (fun k hk => by injection hk with e; omega)) (fun j hj => by match j, hj with | 0, _ => rfl | 1, _ => rfl | 2, _ => rfl | 3, _ => rfl | 4, _ => rfl | 5, _ => rfl | 6, _ => rfl | 7, _ => rfl | 8, hj => exact absurd rfl hj | (n + 9), _ => rfl) }
theorem LayV.forget {zo' : Obj} (h : LayV w B q qo z zo r c t bv vv kv tv bs chk val ws) : LayV w B q qo none zo' r c t bv vv kv tv bs chk val ws :=
  { h with
    hst := fun k hk => by cases hk
    ap := h.ap.set 8 w.heap.size h.lt (.inr (fun k hk => by cases hk)) (fun j hj => by match j, hj with | 0, _ => rfl | 1, _ => rfl | 2, _ => rfl | 3, _ => rfl | 4, _ => rfl | 5, _ => rfl | 6, _ => rfl | 7, _ => rfl | 8, hj => exact absurd rfl hj | (n + 9), _ => rfl) }
/-- what has turned lies from B on -/
theorem LayV.fresh (h : LayV w B q qo z zo r c t bv vv kv tv bs chk val ws) {a : World} (ha : Below B a w) {g : Nat} {j m : Nat} (hg : own9 (some r) (some c) (some t) bv.ownBlock vv.ownBlock kv.ownBlock tv.ownBlock q z j = some g) (u : Value) : Below B a (w.setCell ⟨g, m, none⟩ u) := ha.setCell (h.ge j g hg) u
end
end Go.Proofs.YtjeebcnjdhlcfaaDoor
