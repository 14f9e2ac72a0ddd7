/- A source is the same as itself. Of no program. -/
import Derived.Test.YtnoppoifepbchaaGreatDoorSame3
namespace Go.Proofs.YtnoppoifepbchaaGreatDoor
open Go.RowKit
set_option linter.unusedVariables false
theorem eqL_refl {α : Type} {p : α → α → Bool} (h : ∀ x, p x x = true) (l : List α) : eqL p l l = true := by
 unfold eqL
 rw [beq_self_eq_true, Bool.true_and, List.all_eq_true]
 intro x hx
 obtain ⟨i, hi⟩ := List.getElem?_of_mem hx
 rw [List.getElem?_zip_eq_some] at hi
 have : x.1 = x.2 := Option.some.inj (hi.1.symm.trans hi.2)
 rw [this]; exact h _
theorem Sm.same_refl (x : Sm) : x.same x = true := by unfold Sm.same; simp
theorem Pt.same_refl (x : Pt) : x.same x = true := by unfold Pt.same; simp [Sm.same_refl]
theorem Al.same_refl (x : Al) : x.same x = true := by unfold Al.same; rw [Sm.same_refl, eqL_refl Pt.same_refl]; rfl
theorem Rl.same_refl (x : Rl) : x.same x = true := by unfold Rl.same; rw [eqL_refl Al.same_refl]; simp
theorem Dc.same_refl (x : Dc) : x.same x = true := by unfold Dc.same; rw [eqL_refl Sm.same_refl]; simp
theorem So.same_refl (x : So) : x.same x = true := by unfold So.same; rw [eqL_refl Dc.same_refl, eqL_refl Rl.same_refl]; simp

end Go.Proofs.YtnoppoifepbchaaGreatDoor
