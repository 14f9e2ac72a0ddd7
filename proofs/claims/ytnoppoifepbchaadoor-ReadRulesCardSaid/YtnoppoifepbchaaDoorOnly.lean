/- Regions that draw their order, read, and call what makes memory but writes none of the elder: one walk in the order of the text. -/
import Derived.Test.YtnoppoifepbchaaDoorBaseA
import Derived.BigQuiet
namespace Go.Proofs.YtnoppoifepbchaaDoor
open Go.RowKit
set_option linter.unusedVariables false

open Classical in
/-- a world that W is, if it leaves what lay in w as it was; else w -/
noncomputable def over (w W : World) : World := if Below w.heap.size w W then W else w
theorem over_below (w W : World) : Below w.heap.size w (over w W) := by
  unfold over
  split
  · assumption
  · exact Below.refl _ _
theorem over_of {w W : World} (h : Below w.heap.size w W) : W = over w W := (if_pos h).symm
theorem over_cell {w : World} {p : Addr} {u : Value} (h : w.cell? p = some u) (W : World) : (over w W).cell? p = some u :=
  ((over_below w W).cell (World.block_lt_of_cell? _ _ h)).trans h
theorem calls_over {P : Program} {f : FuncId} {args : Array Value} {w V : World} {v : Value} {R : Ending → World → Prop}
    (h : Calls P f args (over w V) R) (hr : ∀ e w', R e w' → e = .returned v ∧ Below (over w V).heap.size (over w V) w') : Calls P f args (over w V) fun e w'' => e = .returned v ∧ ∃ V', w'' = over w V' :=
  h.mono fun e w' hR => ⟨(hr e w' hR).1, w', over_of ((over_below w V).trans ((hr e w' hR).2.mono (over_below w V).size))⟩
theorem wp_region_over {P : Program} {id : Nat} {Q : Exit → Act → World → Prop} {a : Act} {w : World} {l : List Oper} (hm : P.follows .mixedOrders = true) (hB : Region.lexB .any l.toArray = true)
    (h : wpQuiet P l.toArray (fun w' => ∃ V, w' = over w V) (fun a' => ∀ w', (∃ V, w' = over w V) → Q .normal a' w') l a) : (Code.region id l.toArray true).wp P Q a w :=
  wp_region_quiet (C := fun w' => ∃ V, w' = over w V) hm hB ⟨w.drew, over_of (Below.refl _ _).drew⟩ (by simpa using h)
end Go.Proofs.YtnoppoifepbchaaDoor
