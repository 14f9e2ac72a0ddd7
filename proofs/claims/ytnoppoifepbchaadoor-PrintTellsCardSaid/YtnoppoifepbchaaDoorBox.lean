/- A list that grows in a box: one more element, and the box holds the new slice. Of no program. -/
import Derived.Test.YtnoppoifepbchaaDoorShape
import Derived.Deep.AppendLies
namespace Go.Proofs.YtnoppoifepbchaaDoor
open Go.RowKit
set_option linter.unusedVariables false

section
variable {α : Type} {base : Nat} {E : TypeId} {size : Nat} {R : World → List Value → α → Prop} {S S' : Nat → Prop} {V w w5 : World} {v new : Value} {xs cs : List Value} {l : List α} {x : α} {B j : Nat} {cells : Array Value} {T : TypeId}
theorem GrowL.firm (h : GrowL base E size R S w v xs l) (hs : 0 < size) :
    Firm (fun b => S b ∨ v.ownBlock = some b) w (fun w' => ListV size R w' v l) := ⟨h.lt, fun w' hw => (h.keep hw).list hs⟩
theorem GrowL.box (h : GrowL base E size R S V v xs l) (hb : Below V.heap.size V w) (ho : w5.ownsRow base E size new (l.length + 1) (xs ++ cs)) (hg : w.grownBy w5 v.ownBlock)
    (hl : new.ownBlock = v.ownBlock ∨ new.ownBlock = some w.heap.size) (hc : cs.length = size) (hx : Firm S' w (fun w' => R w' cs x)) (hn : ∀ k, v.ownBlock = some k → ¬ S' k)
    (hB : B < base) (hbox : V.heap[B]? = some (.cells cells T (0, 0))) (hS : ∀ b, S b ∨ S' b → b ≠ B) :
    GrowL base E size R (fun b => S b ∨ S' b) (w5.setCell ⟨B, j, none⟩ new) new (xs ++ cs) (l ++ [x]) ∧
    (w5.setCell ⟨B, j, none⟩ new).heap[B]? = some (.cells (cells.setIfInBounds j new) T (0, 0)) ∧
    (∀ D, D ≤ B → Below D w (w5.setCell ⟨B, j, none⟩ new)) ∧ (∀ b, b < w.heap.size → b ≠ B → b < base → (w5.setCell ⟨B, j, none⟩ new).heap[b]? = w.heap[b]?) := by
  have hlt : B < V.heap.size := (Array.getElem?_eq_some_iff.1 hbox).1
  have hne : ∀ k, v.ownBlock = some k → B < k := fun k hk => Nat.lt_of_lt_of_le hB (own_base h.own (Nat.le_refl _) k hk)
  have p := (h.below hb).push ho hg hl hc hx hn
  refine ⟨p.keep (fun b hb' => Below.heap_setCell _ _ _ _ ?_), block_setCell ?_, fun D hD => ?_, fun b hb1 hb2 hb3 => (Below.heap_setCell _ _ _ _ hb2).trans (hg.block b hb1 (fun e => by have := own_base h.own (Nat.le_refl _) b e.symm; omega))⟩
  · show b ≠ B
    rcases hb' with hb' | hb'
    · exact hS b hb'
    · have := own_base ho (Nat.le_refl _) b hb'
      omega
  · exact (hg.block B (Nat.lt_of_lt_of_le hlt hb.size) (fun e => Nat.lt_irrefl _ (hne B e.symm))).trans ((hb.block B hlt).trans hbox)
  · have h1 := hb.size
    exact ((Below.refl D w).grown hg (by omega) (fun k hk => by have := hne k hk; omega)).setCell hD new
/-- elements that lead nowhere -/
theorem GrowL.box0 (h : GrowL base E size R (fun _ => False) V v xs l) (hb : Below V.heap.size V w) (ho : w5.ownsRow base E size new (l.length + 1) (xs ++ cs)) (hg : w.grownBy w5 v.ownBlock)
    (hl : new.ownBlock = v.ownBlock ∨ new.ownBlock = some w.heap.size) (hc : cs.length = size) (hx : ∀ w', R w' cs x)
    (hB : B < base) (hbox : V.heap[B]? = some (.cells cells T (0, 0))) :
    GrowL base E size R (fun _ => False) (w5.setCell ⟨B, j, none⟩ new) new (xs ++ cs) (l ++ [x]) ∧
    (w5.setCell ⟨B, j, none⟩ new).heap[B]? = some (.cells (cells.setIfInBounds j new) T (0, 0)) ∧
    (∀ D, D ≤ B → Below D w (w5.setCell ⟨B, j, none⟩ new)) ∧ (∀ b, b < w.heap.size → b ≠ B → b < base → (w5.setCell ⟨B, j, none⟩ new).heap[b]? = w.heap[b]?) := by
  have p := h.box (j := j) hb ho hg hl hc (Firm.pure hx) (fun _ _ h => h) hB hbox (fun b hb => (hb.elim id id).elim)
  rw [show (fun b : Nat => (fun _ => False) b ∨ (fun _ => False) b) = fun _ => False from funext (fun b => by simp)] at p
  exact p
/-- what the append's law tells of the new slice's block -/
theorem own_new {gg n cap H : Nat} (h : v.ownBlock = some gg ∨ gg = H) (hH : H = w.heap.size) : (Value.slice (some ⟨gg, 0, none⟩) n cap).ownBlock = v.ownBlock ∨ (Value.slice (some ⟨gg, 0, none⟩) n cap).ownBlock = some w.heap.size := by
  subst hH
  rcases h with h | h
  · exact .inl (by rw [h]; rfl)
  · exact .inr (by rw [h]; rfl)
end
end Go.Proofs.YtnoppoifepbchaaDoor
