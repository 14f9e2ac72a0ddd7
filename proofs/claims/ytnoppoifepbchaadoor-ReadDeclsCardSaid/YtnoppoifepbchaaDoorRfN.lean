/- A list that grows in a box that lies among its own blocks. Of no program. -/
import Derived.Test.YtnoppoifepbchaaDoorTxt1
namespace Go.Proofs.YtnoppoifepbchaaDoor

open Go.RowKit
set_option linter.unusedVariables false

section
variable {α : Type} {base : Nat} {E : TypeId} {size : Nat} {R : World → List Value → α → Prop} {S S' : Nat → Prop} {V w w5 : World} {v new : Value} {xs cs : List Value} {l : List α} {x : α} {B j : Nat} {cells : Array Value} {T : TypeId}
theorem GrowL.boxN (h : GrowL base E size R S V v xs l) (hb : Below V.heap.size V w) (ho : w5.ownsRow base E size new (l.length + 1) (xs ++ cs)) (hg : w.grownBy w5 v.ownBlock)
  (hl : new.ownBlock = v.ownBlock ∨ new.ownBlock = some w.heap.size) (hc : cs.length = size) (hx : Firm S' w (fun w' => R w' cs x)) (hn : ∀ k, v.ownBlock = some k → ¬ S' k)
  (hne : ∀ k, v.ownBlock = some k → k ≠ B) (hbox : V.heap[B]? = some (.cells cells T (0, 0))) (hS : ∀ b, S b ∨ S' b → b ≠ B) :
  GrowL base E size R (fun b => S b ∨ S' b) (w5.setCell ⟨B, j, none⟩ new) new (xs ++ cs) (l ++ [x]) ∧
  (w5.setCell ⟨B, j, none⟩ new).heap[B]? = some (.cells (cells.setIfInBounds j new) T (0, 0)) ∧
  (∀ D, D ≤ B → D ≤ base → Below D w (w5.setCell ⟨B, j, none⟩ new)) ∧ (∀ b, b < w.heap.size → b ≠ B → b < base → (w5.setCell ⟨B, j, none⟩ new).heap[b]? = w.heap[b]?) ∧
  (∀ k, new.ownBlock = some k → k ≠ B) := by
 have hlt : B < V.heap.size := (Array.getElem?_eq_some_iff.1 hbox).1
 have hnb : ∀ k, new.ownBlock = some k → k ≠ B := fun k hk => by
  rcases hl with e | e
  · exact hne k (e ▸ hk)
  · rw [e] at hk
    cases hk
    have := hb.size
    omega
 have p := (h.below hb).push ho hg hl hc hx hn
 refine ⟨p.keep (fun b hb' => Below.heap_setCell _ _ _ _ ?_), block_setCell ?_, fun D hD hD2 => ?_, fun b hb1 hb2 hb3 => (Below.heap_setCell _ _ _ _ hb2).trans (hg.block b hb1 (fun e => by have := own_base h.own (Nat.le_refl _) b e.symm; omega)), hnb⟩
 · show b ≠ B
   rcases hb' with hb' | hb'
   · exact hS b hb'
   · exact hnb b hb'
 · exact (hg.block B (Nat.lt_of_lt_of_le hlt hb.size) (fun e => hne B e.symm rfl)).trans ((hb.block B hlt).trans hbox)
 · have h1 := hb.size
   exact ((Below.refl D w).grown hg (by omega) (fun k hk => Nat.le_trans hD2 (own_base h.own (Nat.le_refl _) k hk))).setCell hD new
end
theorem heap_keep7 (w : World) (o : Obj) {b : Nat} {x : Obj} (h : w.heap[b]? = some x) : (w.alloc o).heap[b]? = some x := by
 rw [Below.heap_alloc w o b (Array.getElem?_eq_some_iff.1 h).1]; exact h
/-- a struct and a slice's row that a call's region makes, in whatever order -/
def AltBox (BC : Nat) (V6 Wf : World) (Sa : Nat → Prop) (Bx SB : Nat) (rb sb : Obj) : Prop :=
 Below BC V6 Wf ∧ Wf.heap[Bx]? = some rb ∧ Wf.heap[SB]? = some sb ∧ BC ≤ Bx ∧ BC ≤ SB ∧ SB ≠ Bx ∧ ∀ b, Sa b → (Wf.heap[b]? = V6.heap[b]? ∧ b ≠ Bx ∧ b ≠ SB)
theorem set3_row7 {w : World} {b : Nat} {c0 c1 c2 : Value} {T : TypeId} (h : w.heap[b]? = some (.cells #[c0, c1, c2] T (0, 0))) (u0 u1 u2 : Value) :
  (((w.setCell ⟨b, 0, none⟩ u0).setCell ⟨b, 1, none⟩ u1).setCell ⟨b, 2, none⟩ u2).heap[b]? = some (.cells #[u0, u1, u2] T (0, 0)) := by
 have h1 := block_setCell (j := 0) (u := u0) h
 have h2 := block_setCell (j := 1) (u := u1) h1
 have h3 := block_setCell (j := 2) (u := u2) h2
 exact h3
theorem set3_far7 {w : World} {q b : Nat} (h : b ≠ q) (v0 v1 v2 : Value) : (((w.setCell ⟨q, 0, none⟩ v0).setCell ⟨q, 1, none⟩ v1).setCell ⟨q, 2, none⟩ v2).heap[b]? = w.heap[b]? :=
 (Below.heap_setCell _ _ _ _ h).trans ((Below.heap_setCell _ _ _ _ h).trans (Below.heap_setCell _ _ _ _ h))
theorem set3_below7 {B q : Nat} {a w : World} (h : Below B a w) (hq : B ≤ q) (v0 v1 v2 : Value) : Below B a (((w.setCell ⟨q, 0, none⟩ v0).setCell ⟨q, 1, none⟩ v1).setCell ⟨q, 2, none⟩ v2) :=
 ((h.setCell (p := ⟨q, 0, none⟩) hq v0).setCell (p := ⟨q, 1, none⟩) hq v1).setCell (p := ⟨q, 2, none⟩) hq v2
section
variable {BC : Nat} {V6 : World} {Sa : Nat → Prop} {cs : Array Value} {A T : TypeId} {u0 u1 u2 : Value}
theorem altBox_A {c0 c1 c2 : Value} (h : V6.heap[BC]? = some (.cells #[c0, c1, c2] T (0, 0))) (hS : ∀ b, Sa b → BC + 1 ≤ b ∧ b < V6.heap.size) :
  AltBox BC V6 ((((V6.alloc (.cells cs A)).setCell ⟨BC, 0, none⟩ u0).setCell ⟨BC, 1, none⟩ u1).setCell ⟨BC, 2, none⟩ u2) Sa BC V6.heap.size (.cells #[u0, u1, u2] T (0, 0)) (.cells cs A (0, 0)) := by
 have hlt : BC < V6.heap.size := (Array.getElem?_eq_some_iff.1 h).1
 have hne : V6.heap.size ≠ BC := Nat.ne_of_gt hlt
 refine ⟨set3_below7 ((Below.refl BC V6).alloc (Nat.le_of_lt hlt) _) (Nat.le_refl _) _ _ _, set3_row7 (heap_keep7 V6 _ h) _ _ _, (set3_far7 hne _ _ _).trans (heap_alloc_new V6 _), Nat.le_refl _, Nat.le_of_lt hlt, hne, fun b hb => ?_⟩
 have h1 := hS b hb
 exact ⟨(set3_far7 (show b ≠ BC by omega) _ _ _).trans (Below.heap_alloc V6 _ b h1.2), by omega, by omega⟩
theorem altBox_B {c0 c1 c2 : Value} (hB : BC ≤ V6.heap.size) (hS : ∀ b, Sa b → b < V6.heap.size) :
  AltBox BC V6 (((((V6.alloc (.cells #[c0, c1, c2] T)).alloc (.cells cs A)).setCell ⟨V6.heap.size, 0, none⟩ u0).setCell ⟨V6.heap.size, 1, none⟩ u1).setCell ⟨V6.heap.size, 2, none⟩ u2) Sa V6.heap.size (V6.heap.size + 1) (.cells #[u0, u1, u2] T (0, 0)) (.cells cs A (0, 0)) := by
 have h1 := (Below.refl BC V6).alloc hB (.cells #[c0, c1, c2] T)
 have hs : (V6.alloc (.cells #[c0, c1, c2] T)).heap.size = V6.heap.size + 1 := World.size_alloc _ _
 have h3 := heap_alloc_new (V6.alloc (.cells #[c0, c1, c2] T)) (.cells cs A)
 rw [hs] at h3
 refine ⟨set3_below7 (h1.alloc (by omega) _) hB _ _ _, set3_row7 (heap_keep7 _ _ (heap_alloc_new V6 _)) _ _ _, (set3_far7 (by omega) _ _ _).trans h3, hB, by omega, by omega, fun b hb => ?_⟩
 have h2 := hS b hb
 exact ⟨(set3_far7 (show b ≠ V6.heap.size by omega) _ _ _).trans ((Below.heap_alloc _ _ b (by omega)).trans (Below.heap_alloc V6 _ b h2)), by omega, by omega⟩
theorem altBox_C {c0 c1 c2 : Value} (hB : BC ≤ V6.heap.size) (hS : ∀ b, Sa b → b < V6.heap.size) :
  AltBox BC V6 (((((V6.alloc (.cells cs A)).alloc (.cells #[c0, c1, c2] T)).setCell ⟨V6.heap.size + 1, 0, none⟩ u0).setCell ⟨V6.heap.size + 1, 1, none⟩ u1).setCell ⟨V6.heap.size + 1, 2, none⟩ u2) Sa (V6.heap.size + 1) V6.heap.size (.cells #[u0, u1, u2] T (0, 0)) (.cells cs A (0, 0)) := by
 have h1 := (Below.refl BC V6).alloc hB (.cells cs A)
 have hs : (V6.alloc (.cells cs A)).heap.size = V6.heap.size + 1 := World.size_alloc _ _
 have h3 := heap_alloc_new (V6.alloc (.cells cs A)) (.cells #[c0, c1, c2] T)
 rw [hs] at h3
 refine ⟨set3_below7 (h1.alloc (by omega) _) (by omega) _ _ _, set3_row7 h3 _ _ _, (set3_far7 (by omega) _ _ _).trans (heap_keep7 _ _ (heap_alloc_new V6 _)), by omega, hB, by omega, fun b hb => ?_⟩
 have h2 := hS b hb
 exact ⟨(set3_far7 (show b ≠ V6.heap.size + 1 by omega) _ _ _).trans ((Below.heap_alloc _ _ b (by omega)).trans (Below.heap_alloc V6 _ b h2)), by omega, by omega⟩
end
end Go.Proofs.YtnoppoifepbchaaDoor
