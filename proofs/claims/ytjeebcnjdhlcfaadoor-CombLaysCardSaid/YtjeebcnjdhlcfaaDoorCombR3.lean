/- The memory of the document's Lay. -/
import Derived.Test.YtjeebcnjdhlcfaaDoorCombR2
namespace Go.Proofs.YtjeebcnjdhlcfaaDoor
open Go.RowKit
set_option linter.unusedVariables false
set_option linter.unusedSimpArgs false

def own6 (a b c d e f : Option Nat) (i : Nat) : Option Nat := match i with | 0 => a | 1 => b | 2 => c | 3 => d | 4 => e | 5 => f | _ => none

structure RefW (w : World) (B r c L n : Nat) (lf : Nat → Bool) (gs : List Nat) (cv1 cv2 bv vv kv : Value) (bs chk val : List Int) : Prop where
  res : w.heap[r]? = some (.cells #[.slice none 0 0, .slice none 0 0, .slice none 0 0] 30 (0, 0))
  free : ∀ j, w.frozen? ⟨c, j, none⟩ = false
  clt : c < w.heap.size
  cB : B ≤ c
  rB : B ≤ r
  c0 : w.cell? ⟨c, 0, none⟩ = some bv
  c1 : w.cell? ⟨c, 1, none⟩ = some cv1
  c2 : w.cell? ⟨c, 2, none⟩ = some cv2
  ob : w.ownsRow B 3 1 bv bs.length (bs.map (Value.int .i64))
  ov : w.ownsRow B 3 1 vv val.length (val.map (Value.int .i64))
  ok : w.ownsRow B 3 1 kv chk.length (chk.map (Value.int .i64))
  lB : B ≤ L
  llt : L < w.heap.size
  lc : ∀ j, j < n → w.cell? ⟨L, j, none⟩ = some (.bool (lf j))
  lfr : ∀ j, w.frozen? ⟨L, j, none⟩ = false
  gg : ∀ g ∈ gs, g < w.heap.size ∧ w.cell? ⟨g, 0, none⟩ = some (.int .i64 0) ∧ ∀ i, own6 (some r) (some c) bv.ownBlock vv.ownBlock kv.ownBlock (some L) i ≠ some g
  ap : Apart (own6 (some r) (some c) bv.ownBlock vv.ownBlock kv.ownBlock (some L))

section
variable {w w' w2 : World} {B r c L n : Nat} {lf : Nat → Bool} {gs : List Nat} {cv1 cv2 bv vv kv : Value} {bs chk val : List Int}
theorem RefW.lt (h : RefW w B r c L n lf gs cv1 cv2 bv vv kv bs chk val) : ∀ j k, own6 (some r) (some c) bv.ownBlock vv.ownBlock kv.ownBlock (some L) j = some k → k < w.heap.size := by
  intro j k hk
  match j, hk with
  | 0, hk => cases hk; exact (Array.getElem?_eq_some_iff.1 h.res).1
  | 1, hk => cases hk; exact h.clt
  | 2, hk => exact (h.ob.lt k hk).2
  | 3, hk => exact (h.ov.lt k hk).2
  | 4, hk => exact (h.ok.lt k hk).2
  | 5, hk => cases hk; exact h.llt
theorem RefW.ge (h : RefW w B r c L n lf gs cv1 cv2 bv vv kv bs chk val) : ∀ j k, own6 (some r) (some c) bv.ownBlock vv.ownBlock kv.ownBlock (some L) j = some k → B ≤ k := by
  intro j k hk
  match j, hk with
  | 0, hk => cases hk; exact h.rB
  | 1, hk => cases hk; exact h.cB
  | 2, hk => exact (h.ob.lt k hk).1
  | 3, hk => exact (h.ov.lt k hk).1
  | 4, hk => exact (h.ok.lt k hk).1
  | 5, hk => cases hk; exact h.lB
theorem RefW.same (h : RefW w B r c L n lf gs cv1 cv2 bv vv kv bs chk val) (hs : w.heap.size ≤ w'.heap.size) (hk : ∀ j k, own6 (some r) (some c) bv.ownBlock vv.ownBlock kv.ownBlock (some L) j = some k → w'.heap[k]? = w.heap[k]?) (hG : ∀ g ∈ gs, w'.heap[g]? = w.heap[g]?) : RefW w' B r c L n lf gs cv1 cv2 bv vv kv bs chk val := {
    res := (hk 0 r rfl).trans h.res
    free := fun j => (World.frozen?_of_block (a := ⟨c, j, none⟩) (hk 1 c rfl)).trans (h.free j)
    clt := Nat.lt_of_lt_of_le h.clt hs
    cB := h.cB
    rB := h.rB
    c0 := (World.cell?_of_block (a := ⟨c, 0, none⟩) (hk 1 c rfl)).trans h.c0
    c1 := (World.cell?_of_block (a := ⟨c, 1, none⟩) (hk 1 c rfl)).trans h.c1
    c2 := (World.cell?_of_block (a := ⟨c, 2, none⟩) (hk 1 c rfl)).trans h.c2
    ob := row_kept h.ob (fun k => hk 2 k )
    ov := row_kept h.ov (fun k => hk 3 k )
    ok := row_kept h.ok (fun k => hk 4 k )
    lB := h.lB
    llt := Nat.lt_of_lt_of_le h.llt hs
    lc := fun j hj => (World.cell?_of_block (a := ⟨L, j, none⟩) (hk 5 L rfl)).trans (h.lc j hj)
    lfr := fun j => (World.frozen?_of_block (a := ⟨L, j, none⟩) (hk 5 L rfl)).trans (h.lfr j)
    gg := fun g hg' => ⟨Nat.lt_of_lt_of_le (h.gg g hg').1 hs, (World.cell?_of_block (a := ⟨g, 0, none⟩) (hG g hg')).trans (h.gg g hg').2.1, (h.gg g hg').2.2⟩
    ap := h.ap }
theorem RefW.below (h : RefW w B r c L n lf gs cv1 cv2 bv vv kv bs chk val) (hb : Below w.heap.size w w') : RefW w' B r c L n lf gs cv1 cv2 bv vv kv bs chk val :=
  h.same hb.size (fun j k hk => hb.block k (h.lt j k hk)) (fun g hg => hb.block g (h.gg g hg).1)
theorem RefW.drew (h : RefW w B r c L n lf gs cv1 cv2 bv vv kv bs chk val) : RefW w.drew B r c L n lf gs cv1 cv2 bv vv kv bs chk val := h.below (Below.refl _ _).drew
theorem RefW.alloc (h : RefW w B r c L n lf gs cv1 cv2 bv vv kv bs chk val) (o : Obj) : RefW (w.alloc o) B r c L n lf gs cv1 cv2 bv vv kv bs chk val := h.below ((Below.refl _ _).alloc (Nat.le_refl _) o)
theorem RefW.lit (h : RefW w B r c L n lf gs cv1 cv2 bv vv kv bs chk val) (T : TypeId) : RefW (w.alloc (.cells #[.int .i64 0] T)) B r c L n lf (w.heap.size :: gs) cv1 cv2 bv vv kv bs chk val := by
  have h2 := h.alloc (.cells #[.int .i64 0] T)
  exact { h2 with
    gg := fun g hg => by
      rcases List.mem_cons.1 hg with rfl | hg
      · exact ⟨by simp, cell_of_row _ _ _ _ _ _ (heap_alloc_new w _), fun i e => by have := h.lt i _ e; omega⟩
      · exact h2.gg g hg }
theorem RefW.forget (h : RefW w B r c L n lf gs cv1 cv2 bv vv kv bs chk val) : RefW w B r c L n lf [] cv1 cv2 bv vv kv bs chk val := { h with gg := fun g hg => absurd hg (by simp) }
theorem RefW.fresh (h : RefW w B r c L n lf gs cv1 cv2 bv vv kv bs chk val) {a : World} (ha : Below B a w) {g : Nat} {j m : Nat} (hg : own6 (some r) (some c) bv.ownBlock vv.ownBlock kv.ownBlock (some L) j = some g) (u : Value) : Below B a (w.setCell ⟨g, m, none⟩ u) := ha.setCell (h.ge j g hg) u
theorem RefW.growV {y : Value} {l2 : List Int} (h : RefW w B r c L n lf gs cv1 cv2 bv vv kv bs chk val) (hg : w.grownBy w2 vv.ownBlock) (ho : w2.ownsRow B 3 1 y l2.length (l2.map (Value.int .i64))) (hl : y.ownBlock = vv.ownBlock ∨ y.ownBlock = some w.heap.size) : RefW w2 B r c L n lf gs cv1 cv2 bv y kv bs chk l2 := by
  have hs : w.heap.size ≤ w2.heap.size := hg.size
  have hk : ∀ j k, j ≠ 3 → own6 (some r) (some c) bv.ownBlock vv.ownBlock kv.ownBlock (some L) j = some k → w2.heap[k]? = w.heap[k]? := fun j k hj hk => hg.block k (h.lt j k hk) (fun e => h.ap j 3 hj k hk e.symm)
  have hG : ∀ g ∈ gs, w2.heap[g]? = w.heap[g]? := fun g hg' => hg.block g (h.gg g hg').1 (fun e => (h.gg g hg').2.2 3 e.symm)
  exact {
    res := (hk 0 r (by omega) rfl).trans h.res
    free := fun j => (World.frozen?_of_block (a := ⟨c, j, none⟩) (hk 1 c (by omega) rfl)).trans (h.free j)
    clt := Nat.lt_of_lt_of_le h.clt hs
    cB := h.cB
    rB := h.rB
    c0 := (World.cell?_of_block (a := ⟨c, 0, none⟩) (hk 1 c (by omega) rfl)).trans h.c0
    c1 := (World.cell?_of_block (a := ⟨c, 1, none⟩) (hk 1 c (by omega) rfl)).trans h.c1
    c2 := (World.cell?_of_block (a := ⟨c, 2, none⟩) (hk 1 c (by omega) rfl)).trans h.c2
    ob := row_kept h.ob (fun k => hk 2 k (by omega) )
    ov := ho
    ok := row_kept h.ok (fun k => hk 4 k (by omega) )
    lB := h.lB
    llt := Nat.lt_of_lt_of_le h.llt hs
    lc := fun j hj => (World.cell?_of_block (a := ⟨L, j, none⟩) (hk 5 L (by omega) rfl)).trans (h.lc j hj)
    lfr := fun j => (World.frozen?_of_block (a := ⟨L, j, none⟩) (hk 5 L (by omega) rfl)).trans (h.lfr j)
    gg := fun g hg' => ⟨Nat.lt_of_lt_of_le (h.gg g hg').1 hs, (World.cell?_of_block (a := ⟨g, 0, none⟩) (hG g hg')).trans (h.gg g hg').2.1, fun j e => by
      have h1 := (h.gg g hg').2.2
      have h2 := (h.gg g hg').1
      match j, e with
      | 0, e => exact h1 0 e
      | 1, e => exact h1 1 e
      | 2, e => exact h1 2 e
      | 3, e => 
        rcases hl with e2 | e2
        · exact h1 3 (e2.symm.trans e)
        · have e3 : some w.heap.size = some g := e2.symm.trans e
          injection e3; omega
      | 4, e => exact h1 4 e
      | 5, e => exact h1 5 e
      | (m + 6), e => cases e⟩
    ap := h.ap.set 3 w.heap.size h.lt (hl.imp id (fun e k hk => by
      have e2 : some w.heap.size = some k := e.symm.trans hk
      injection e2; omega)) (fun j hj => by match j, hj with | 0, _ => rfl | 1, _ => rfl | 2, _ => rfl | 3, hj => exact absurd rfl hj | 4, _ => rfl | 5, _ => rfl | (m + 6), _ => rfl) }
theorem RefW.growK {y : Value} {l2 : List Int} (h : RefW w B r c L n lf gs cv1 cv2 bv vv kv bs chk val) (hg : w.grownBy w2 kv.ownBlock) (ho : w2.ownsRow B 3 1 y l2.length (l2.map (Value.int .i64))) (hl : y.ownBlock = kv.ownBlock ∨ y.ownBlock = some w.heap.size) : RefW w2 B r c L n lf gs cv1 cv2 bv vv y bs l2 val := by
  have hs : w.heap.size ≤ w2.heap.size := hg.size
  have hk : ∀ j k, j ≠ 4 → own6 (some r) (some c) bv.ownBlock vv.ownBlock kv.ownBlock (some L) j = some k → w2.heap[k]? = w.heap[k]? := fun j k hj hk => hg.block k (h.lt j k hk) (fun e => h.ap j 4 hj k hk e.symm)
  have hG : ∀ g ∈ gs, w2.heap[g]? = w.heap[g]? := fun g hg' => hg.block g (h.gg g hg').1 (fun e => (h.gg g hg').2.2 4 e.symm)
  exact {
    res := (hk 0 r (by omega) rfl).trans h.res
    free := fun j => (World.frozen?_of_block (a := ⟨c, j, none⟩) (hk 1 c (by omega) rfl)).trans (h.free j)
    clt := Nat.lt_of_lt_of_le h.clt hs
    cB := h.cB
    rB := h.rB
    c0 := (World.cell?_of_block (a := ⟨c, 0, none⟩) (hk 1 c (by omega) rfl)).trans h.c0
    c1 := (World.cell?_of_block (a := ⟨c, 1, none⟩) (hk 1 c (by omega) rfl)).trans h.c1
    c2 := (World.cell?_of_block (a := ⟨c, 2, none⟩) (hk 1 c (by omega) rfl)).trans h.c2
    ob := row_kept h.ob (fun k => hk 2 k (by omega) )
    ov := row_kept h.ov (fun k => hk 3 k (by omega) )
    ok := ho
    lB := h.lB
    llt := Nat.lt_of_lt_of_le h.llt hs
    lc := fun j hj => (World.cell?_of_block (a := ⟨L, j, none⟩) (hk 5 L (by omega) rfl)).trans (h.lc j hj)
    lfr := fun j => (World.frozen?_of_block (a := ⟨L, j, none⟩) (hk 5 L (by omega) rfl)).trans (h.lfr j)
    gg := fun g hg' => ⟨Nat.lt_of_lt_of_le (h.gg g hg').1 hs, (World.cell?_of_block (a := ⟨g, 0, none⟩) (hG g hg')).trans (h.gg g hg').2.1, fun j e => by
      have h1 := (h.gg g hg').2.2
      have h2 := (h.gg g hg').1
      match j, e with
      | 0, e => exact h1 0 e
      | 1, e => exact h1 1 e
      | 2, e => exact h1 2 e
      | 3, e => exact h1 3 e
      | 4, e => 
        rcases hl with e2 | e2
        · exact h1 4 (e2.symm.trans e)
        · have e3 : some w.heap.size = some g := e2.symm.trans e
          injection e3; omega
      | 5, e => exact h1 5 e
      | (m + 6), e => cases e⟩
    ap := h.ap.set 4 w.heap.size h.lt (hl.imp id (fun e k hk => by
      have e2 : some w.heap.size = some k := e.symm.trans hk
      injection e2; omega)) (fun j hj => by match j, hj with | 0, _ => rfl | 1, _ => rfl | 2, _ => rfl | 3, _ => rfl | 4, hj => exact absurd rfl hj | 5, _ => rfl | (m + 6), _ => rfl) }
theorem RefW.putV (h : RefW w B r c L n lf gs cv1 cv2 bv vv kv bs chk val) (x : Value) : RefW (w.setCell ⟨c, 1, none⟩ x) B r c L n lf gs x cv2 bv vv kv bs chk val := by
  have hs : w.heap.size ≤ (w.setCell ⟨c, 1, none⟩ x).heap.size := by simp [World.setCell]
  have hk : ∀ j k, j ≠ 1 → own6 (some r) (some c) bv.ownBlock vv.ownBlock kv.ownBlock (some L) j = some k → (w.setCell ⟨c, 1, none⟩ x).heap[k]? = w.heap[k]? := fun j k hj hk => Below.heap_setCell _ _ _ _ (fun e => h.ap j 1 hj k hk (by rw [e]; rfl))
  have hG : ∀ g ∈ gs, (w.setCell ⟨c, 1, none⟩ x).heap[g]? = w.heap[g]? := fun g hg => Below.heap_setCell _ _ _ _ (fun e => (h.gg g hg).2.2 1 (by rw [e]; rfl))
  exact {
    res := (hk 0 r (by omega) rfl).trans h.res
    free := fun j => by rw [World.frozen?_setCell]; exact h.free j
    clt := Nat.lt_of_lt_of_le h.clt hs
    cB := h.cB
    rB := h.rB
    c0 := (cell_ne (by omega) _).trans h.c0
    c1 := World.cell?_setCell_same _ _ _ h.c1
    c2 := (cell_ne (by omega) _).trans h.c2
    ob := row_kept h.ob (fun k => hk 2 k (by omega) )
    ov := row_kept h.ov (fun k => hk 3 k (by omega) )
    ok := row_kept h.ok (fun k => hk 4 k (by omega) )
    lB := h.lB
    llt := Nat.lt_of_lt_of_le h.llt hs
    lc := fun j hj => (World.cell?_of_block (a := ⟨L, j, none⟩) (hk 5 L (by omega) rfl)).trans (h.lc j hj)
    lfr := fun j => (World.frozen?_of_block (a := ⟨L, j, none⟩) (hk 5 L (by omega) rfl)).trans (h.lfr j)
    gg := fun g hg' => ⟨Nat.lt_of_lt_of_le (h.gg g hg').1 hs, (World.cell?_of_block (a := ⟨g, 0, none⟩) (hG g hg')).trans (h.gg g hg').2.1, (h.gg g hg').2.2⟩
    ap := h.ap }
theorem RefW.putK (h : RefW w B r c L n lf gs cv1 cv2 bv vv kv bs chk val) (x : Value) : RefW (w.setCell ⟨c, 2, none⟩ x) B r c L n lf gs cv1 x bv vv kv bs chk val := by
  have hs : w.heap.size ≤ (w.setCell ⟨c, 2, none⟩ x).heap.size := by simp [World.setCell]
  have hk : ∀ j k, j ≠ 1 → own6 (some r) (some c) bv.ownBlock vv.ownBlock kv.ownBlock (some L) j = some k → (w.setCell ⟨c, 2, none⟩ x).heap[k]? = w.heap[k]? := fun j k hj hk => Below.heap_setCell _ _ _ _ (fun e => h.ap j 1 hj k hk (by rw [e]; rfl))
  have hG : ∀ g ∈ gs, (w.setCell ⟨c, 2, none⟩ x).heap[g]? = w.heap[g]? := fun g hg => Below.heap_setCell _ _ _ _ (fun e => (h.gg g hg).2.2 1 (by rw [e]; rfl))
  exact {
    res := (hk 0 r (by omega) rfl).trans h.res
    free := fun j => by rw [World.frozen?_setCell]; exact h.free j
    clt := Nat.lt_of_lt_of_le h.clt hs
    cB := h.cB
    rB := h.rB
    c0 := (cell_ne (by omega) _).trans h.c0
    c1 := (cell_ne (by omega) _).trans h.c1
    c2 := World.cell?_setCell_same _ _ _ h.c2
    ob := row_kept h.ob (fun k => hk 2 k (by omega) )
    ov := row_kept h.ov (fun k => hk 3 k (by omega) )
    ok := row_kept h.ok (fun k => hk 4 k (by omega) )
    lB := h.lB
    llt := Nat.lt_of_lt_of_le h.llt hs
    lc := fun j hj => (World.cell?_of_block (a := ⟨L, j, none⟩) (hk 5 L (by omega) rfl)).trans (h.lc j hj)
    lfr := fun j => (World.frozen?_of_block (a := ⟨L, j, none⟩) (hk 5 L (by omega) rfl)).trans (h.lfr j)
    gg := fun g hg' => ⟨Nat.lt_of_lt_of_le (h.gg g hg').1 hs, (World.cell?_of_block (a := ⟨g, 0, none⟩) (hG g hg')).trans (h.gg g hg').2.1, (h.gg g hg').2.2⟩
    ap := h.ap }
theorem RefW.setB {g cap : Nat} (h : RefW w B r c L n lf gs cv1 cv2 (.slice (some ⟨g, 0, none⟩) bs.length cap) vv kv bs chk val) (j : Nat) (x : Int) : RefW (w.setCell ⟨g, j, none⟩ (.int .i64 x)) B r c L n lf gs cv1 cv2 (.slice (some ⟨g, 0, none⟩) bs.length cap) vv kv (bs.set j x) chk val := by
  have hs : w.heap.size ≤ (w.setCell ⟨g, j, none⟩ (.int .i64 x)).heap.size := by simp [World.setCell]
  have hk : ∀ i k, i ≠ 2 → own6 (some r) (some c) (Value.slice (some ⟨g, 0, none⟩) bs.length cap).ownBlock vv.ownBlock kv.ownBlock (some L) i = some k → (w.setCell ⟨g, j, none⟩ (.int .i64 x)).heap[k]? = w.heap[k]? := fun i k hj hk => Below.heap_setCell _ _ _ _ (fun e => h.ap i 2 hj k hk (by rw [e]; rfl))
  have hG : ∀ q ∈ gs, (w.setCell ⟨g, j, none⟩ (.int .i64 x)).heap[q]? = w.heap[q]? := fun q hq => Below.heap_setCell _ _ _ _ (fun e => (h.gg q hq).2.2 2 (by rw [e]; rfl))
  exact {
    res := (hk 0 r (by omega) rfl).trans h.res
    free := fun j => (World.frozen?_of_block (a := ⟨c, j, none⟩) (hk 1 c (by omega) rfl)).trans (h.free j)
    clt := Nat.lt_of_lt_of_le h.clt hs
    cB := h.cB
    rB := h.rB
    c0 := (World.cell?_of_block (a := ⟨c, 0, none⟩) (hk 1 c (by omega) rfl)).trans h.c0
    c1 := (World.cell?_of_block (a := ⟨c, 1, none⟩) (hk 1 c (by omega) rfl)).trans h.c1
    c2 := (World.cell?_of_block (a := ⟨c, 2, none⟩) (hk 1 c (by omega) rfl)).trans h.c2
    ob := row_set h.ob j x
    ov := row_kept h.ov (fun k => hk 3 k (by omega) )
    ok := row_kept h.ok (fun k => hk 4 k (by omega) )
    lB := h.lB
    llt := Nat.lt_of_lt_of_le h.llt hs
    lc := fun j hj => (World.cell?_of_block (a := ⟨L, j, none⟩) (hk 5 L (by omega) rfl)).trans (h.lc j hj)
    lfr := fun j => (World.frozen?_of_block (a := ⟨L, j, none⟩) (hk 5 L (by omega) rfl)).trans (h.lfr j)
    gg := fun g hg' => ⟨Nat.lt_of_lt_of_le (h.gg g hg').1 hs, (World.cell?_of_block (a := ⟨g, 0, none⟩) (hG g hg')).trans (h.gg g hg').2.1, (h.gg g hg').2.2⟩
    ap := h.ap }
theorem RefW.setV {g cap : Nat} (h : RefW w B r c L n lf gs cv1 cv2 bv (.slice (some ⟨g, 0, none⟩) val.length cap) kv bs chk val) (j : Nat) (x : Int) : RefW (w.setCell ⟨g, j, none⟩ (.int .i64 x)) B r c L n lf gs cv1 cv2 bv (.slice (some ⟨g, 0, none⟩) val.length cap) kv bs chk (val.set j x) := by
  have hs : w.heap.size ≤ (w.setCell ⟨g, j, none⟩ (.int .i64 x)).heap.size := by simp [World.setCell]
  have hk : ∀ i k, i ≠ 3 → own6 (some r) (some c) bv.ownBlock (Value.slice (some ⟨g, 0, none⟩) val.length cap).ownBlock kv.ownBlock (some L) i = some k → (w.setCell ⟨g, j, none⟩ (.int .i64 x)).heap[k]? = w.heap[k]? := fun i k hj hk => Below.heap_setCell _ _ _ _ (fun e => h.ap i 3 hj k hk (by rw [e]; rfl))
  have hG : ∀ q ∈ gs, (w.setCell ⟨g, j, none⟩ (.int .i64 x)).heap[q]? = w.heap[q]? := fun q hq => Below.heap_setCell _ _ _ _ (fun e => (h.gg q hq).2.2 3 (by rw [e]; rfl))
  exact {
    res := (hk 0 r (by omega) rfl).trans h.res
    free := fun j => (World.frozen?_of_block (a := ⟨c, j, none⟩) (hk 1 c (by omega) rfl)).trans (h.free j)
    clt := Nat.lt_of_lt_of_le h.clt hs
    cB := h.cB
    rB := h.rB
    c0 := (World.cell?_of_block (a := ⟨c, 0, none⟩) (hk 1 c (by omega) rfl)).trans h.c0
    c1 := (World.cell?_of_block (a := ⟨c, 1, none⟩) (hk 1 c (by omega) rfl)).trans h.c1
    c2 := (World.cell?_of_block (a := ⟨c, 2, none⟩) (hk 1 c (by omega) rfl)).trans h.c2
    ob := row_kept h.ob (fun k => hk 2 k (by omega) )
    ov := row_set h.ov j x
    ok := row_kept h.ok (fun k => hk 4 k (by omega) )
    lB := h.lB
    llt := Nat.lt_of_lt_of_le h.llt hs
    lc := fun j hj => (World.cell?_of_block (a := ⟨L, j, none⟩) (hk 5 L (by omega) rfl)).trans (h.lc j hj)
    lfr := fun j => (World.frozen?_of_block (a := ⟨L, j, none⟩) (hk 5 L (by omega) rfl)).trans (h.lfr j)
    gg := fun g hg' => ⟨Nat.lt_of_lt_of_le (h.gg g hg').1 hs, (World.cell?_of_block (a := ⟨g, 0, none⟩) (hG g hg')).trans (h.gg g hg').2.1, (h.gg g hg').2.2⟩
    ap := h.ap }
theorem RefW.setK {g cap : Nat} (h : RefW w B r c L n lf gs cv1 cv2 bv vv (.slice (some ⟨g, 0, none⟩) chk.length cap) bs chk val) (j : Nat) (x : Int) : RefW (w.setCell ⟨g, j, none⟩ (.int .i64 x)) B r c L n lf gs cv1 cv2 bv vv (.slice (some ⟨g, 0, none⟩) chk.length cap) bs (chk.set j x) val := by
  have hs : w.heap.size ≤ (w.setCell ⟨g, j, none⟩ (.int .i64 x)).heap.size := by simp [World.setCell]
  have hk : ∀ i k, i ≠ 4 → own6 (some r) (some c) bv.ownBlock vv.ownBlock (Value.slice (some ⟨g, 0, none⟩) chk.length cap).ownBlock (some L) i = some k → (w.setCell ⟨g, j, none⟩ (.int .i64 x)).heap[k]? = w.heap[k]? := fun i k hj hk => Below.heap_setCell _ _ _ _ (fun e => h.ap i 4 hj k hk (by rw [e]; rfl))
  have hG : ∀ q ∈ gs, (w.setCell ⟨g, j, none⟩ (.int .i64 x)).heap[q]? = w.heap[q]? := fun q hq => Below.heap_setCell _ _ _ _ (fun e => (h.gg q hq).2.2 4 (by rw [e]; rfl))
  exact {
    res := (hk 0 r (by omega) rfl).trans h.res
    free := fun j => (World.frozen?_of_block (a := ⟨c, j, none⟩) (hk 1 c (by omega) rfl)).trans (h.free j)
    clt := Nat.lt_of_lt_of_le h.clt hs
    cB := h.cB
    rB := h.rB
    c0 := (World.cell?_of_block (a := ⟨c, 0, none⟩) (hk 1 c (by omega) rfl)).trans h.c0
    c1 := (World.cell?_of_block (a := ⟨c, 1, none⟩) (hk 1 c (by omega) rfl)).trans h.c1
    c2 := (World.cell?_of_block (a := ⟨c, 2, none⟩) (hk 1 c (by omega) rfl)).trans h.c2
    ob := row_kept h.ob (fun k => hk 2 k (by omega) )
    ov := row_kept h.ov (fun k => hk 3 k (by omega) )
    ok := row_set h.ok j x
    lB := h.lB
    llt := Nat.lt_of_lt_of_le h.llt hs
    lc := fun j hj => (World.cell?_of_block (a := ⟨L, j, none⟩) (hk 5 L (by omega) rfl)).trans (h.lc j hj)
    lfr := fun j => (World.frozen?_of_block (a := ⟨L, j, none⟩) (hk 5 L (by omega) rfl)).trans (h.lfr j)
    gg := fun g hg' => ⟨Nat.lt_of_lt_of_le (h.gg g hg').1 hs, (World.cell?_of_block (a := ⟨g, 0, none⟩) (hG g hg')).trans (h.gg g hg').2.1, (h.gg g hg').2.2⟩
    ap := h.ap }
theorem RefW.setL (h : RefW w B r c L n lf gs cv1 cv2 bv vv kv bs chk val) (q : Nat) (lf' : Nat → Bool) (hf : ∀ k, lf' k = (lf k || decide (k = q))) : RefW (w.setCell ⟨L, q, none⟩ (.bool true)) B r c L n lf' gs cv1 cv2 bv vv kv bs chk val := by
  have hs : w.heap.size ≤ (w.setCell ⟨L, q, none⟩ (.bool true)).heap.size := by simp [World.setCell]
  have hk : ∀ j k, j ≠ 5 → own6 (some r) (some c) bv.ownBlock vv.ownBlock kv.ownBlock (some L) j = some k → (w.setCell ⟨L, q, none⟩ (.bool true)).heap[k]? = w.heap[k]? := fun j k hj hk => Below.heap_setCell _ _ _ _ (fun e => h.ap j 5 hj k hk (by rw [e]; rfl))
  have hG : ∀ g ∈ gs, (w.setCell ⟨L, q, none⟩ (.bool true)).heap[g]? = w.heap[g]? := fun g hg => Below.heap_setCell _ _ _ _ (fun e => (h.gg g hg).2.2 5 (by rw [e]; rfl))
  exact {
    res := (hk 0 r (by omega) rfl).trans h.res
    free := fun j => (World.frozen?_of_block (a := ⟨c, j, none⟩) (hk 1 c (by omega) rfl)).trans (h.free j)
    clt := Nat.lt_of_lt_of_le h.clt hs
    cB := h.cB
    rB := h.rB
    c0 := (World.cell?_of_block (a := ⟨c, 0, none⟩) (hk 1 c (by omega) rfl)).trans h.c0
    c1 := (World.cell?_of_block (a := ⟨c, 1, none⟩) (hk 1 c (by omega) rfl)).trans h.c1
    c2 := (World.cell?_of_block (a := ⟨c, 2, none⟩) (hk 1 c (by omega) rfl)).trans h.c2
    ob := row_kept h.ob (fun k => hk 2 k (by omega) )
    ov := row_kept h.ov (fun k => hk 3 k (by omega) )
    ok := row_kept h.ok (fun k => hk 4 k (by omega) )
    lB := h.lB
    llt := Nat.lt_of_lt_of_le h.llt hs
    lc := fun j hj => by
      rw [hf]
      by_cases e : q = j
      · subst e
        rw [World.cell?_setCell_same _ _ _ (h.lc q hj)]; simp
      · rw [World.cell?_setCell_other _ _ _ _ (by intro e2; injection e2; exact e ‹_›), h.lc j hj, decide_eq_false (by omega), Bool.or_false]
    lfr := fun j => by rw [World.frozen?_setCell]; exact h.lfr j
    gg := fun g hg' => ⟨Nat.lt_of_lt_of_le (h.gg g hg').1 hs, (World.cell?_of_block (a := ⟨g, 0, none⟩) (hG g hg')).trans (h.gg g hg').2.1, (h.gg g hg').2.2⟩
    ap := h.ap }
end
theorem step_pushV {ops : Array Oper} {o : Oper} {a : Act} {K : Act → World → Prop} {Q : Exit → Act → World → Prop} {E : Prop} {i : TypeInfo} {W : World} {B r c L n : Nat} {lf : Nat → Bool} {gs : List Nat} {cv1 cv2 bv vv kv : Value} {bs chk val : List Int} (hi : Tryd.prog.info? 3 = some i) (hz : i.zero = some (.int .i64 0)) (hsz : i.size = 1) (hby : i.bytes = 8)
    (hgd : o.guard = none) (s x : Operand) (ho : o.op = .call { callee := .builtin .append, args := #[s, x], argTypes := #[28, 28] })
    (h : RefW W B r c L n lf gs cv1 cv2 bv vv kv bs chk val) (hB : B ≤ W.heap.size) (b : Nat) (hs : a.eval s = vv) (hx : a.eval x = .slice (some ⟨b, 0, none⟩) 1 1) (hb : b ∈ gs) (hl : val.length ≤ 1000000)
    (hK : ∀ y W', RefW W' B r c L n lf gs cv1 cv2 bv y kv bs chk (val ++ [0]) → W.grownBy W' vv.ownBlock → K (a.put o.dst y) W') :
    if Region.wanted o (yielded ops a.tmps) = true then Oper.wp Tryd.prog o a W K Q else E := by
  have hw : Region.wanted o (yielded ops a.tmps) = true := by simp [Region.wanted, hgd]
  rw [if_pos hw]
  have hg := h.gg b hb
  obtain ⟨v', w', hr, h2, h3, h4, h5⟩ := run_append_own_at (P := Tryd.prog) (w := W) B 28 o.type 3 i (.int .i64 0) 1 8 Tryd.underlying28 hi hz hsz hby rfl (by decide) vv val.length (val.map (Value.int .i64)) h.ov ⟨b, 0, none⟩ 1 1 [.int .i64 0] rfl (fun j u hj => by
    match j, hj with
    | 0, hj => simp at hj; rw [← hj]; exact hg.2.1
    | (m + 1), hj => simp at hj) (by intro u hu; simp at hu; rw [hu]; rfl) (by unfold maxLen; omega) (by omega) hB
  unfold Oper.wp execOp
  simp only [ho, resolve, invoke, builtin, Sem.run_bind, Sem.run_pure, Result.andThen_ok, List.map_toArray, List.map_cons, List.map_nil, hs, hx, hr]
  refine hK _ _ ?_ h3
  have e1 : val.map (Value.int .i64) ++ [.int .i64 0] = (val ++ [0]).map (Value.int .i64) := by rw [List.map_append]; rfl
  have e2 : val.length + 1 = (val ++ [0]).length := by rw [List.length_append]; rfl
  rw [e1, e2] at h2
  exact h.growV h3 h2 h5
theorem step_pushK {ops : Array Oper} {o : Oper} {a : Act} {K : Act → World → Prop} {Q : Exit → Act → World → Prop} {E : Prop} {i : TypeInfo} {W : World} {B r c L n : Nat} {lf : Nat → Bool} {gs : List Nat} {cv1 cv2 bv vv kv : Value} {bs chk val : List Int} (hi : Tryd.prog.info? 3 = some i) (hz : i.zero = some (.int .i64 0)) (hsz : i.size = 1) (hby : i.bytes = 8)
    (hgd : o.guard = none) (s x : Operand) (ho : o.op = .call { callee := .builtin .append, args := #[s, x], argTypes := #[28, 28] })
    (h : RefW W B r c L n lf gs cv1 cv2 bv vv kv bs chk val) (hB : B ≤ W.heap.size) (b : Nat) (hs : a.eval s = kv) (hx : a.eval x = .slice (some ⟨b, 0, none⟩) 1 1) (hb : b ∈ gs) (hl : chk.length ≤ 1000000)
    (hK : ∀ y W', RefW W' B r c L n lf gs cv1 cv2 bv vv y bs (chk ++ [0]) val → W.grownBy W' kv.ownBlock → K (a.put o.dst y) W') :
    if Region.wanted o (yielded ops a.tmps) = true then Oper.wp Tryd.prog o a W K Q else E := by
  have hw : Region.wanted o (yielded ops a.tmps) = true := by simp [Region.wanted, hgd]
  rw [if_pos hw]
  have hg := h.gg b hb
  obtain ⟨v', w', hr, h2, h3, h4, h5⟩ := run_append_own_at (P := Tryd.prog) (w := W) B 28 o.type 3 i (.int .i64 0) 1 8 Tryd.underlying28 hi hz hsz hby rfl (by decide) kv chk.length (chk.map (Value.int .i64)) h.ok ⟨b, 0, none⟩ 1 1 [.int .i64 0] rfl (fun j u hj => by
    match j, hj with
    | 0, hj => simp at hj; rw [← hj]; exact hg.2.1
    | (m + 1), hj => simp at hj) (by intro u hu; simp at hu; rw [hu]; rfl) (by unfold maxLen; omega) (by omega) hB
  unfold Oper.wp execOp
  simp only [ho, resolve, invoke, builtin, Sem.run_bind, Sem.run_pure, Result.andThen_ok, List.map_toArray, List.map_cons, List.map_nil, hs, hx, hr]
  refine hK _ _ ?_ h3
  have e1 : chk.map (Value.int .i64) ++ [.int .i64 0] = (chk ++ [0]).map (Value.int .i64) := by rw [List.map_append]; rfl
  have e2 : chk.length + 1 = (chk ++ [0]).length := by rw [List.length_append]; rfl
  rw [e1, e2] at h2
  exact h.growK h3 h2 h5
end Go.Proofs.YtjeebcnjdhlcfaaDoor
