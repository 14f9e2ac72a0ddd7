/- Faults and words held against the document's. -/
import Derived.Test.YtnoppoifepbchaaDoorZA
import Derived.Test.YtnoppoifepbchaaDoorLLex8
namespace Go.Proofs.YtnoppoifepbchaaDoor
section
open Go.RowKit
set_option linter.unusedVariables false
end
section
open Go.RowKit
set_option linter.unusedVariables false
def Wd.cells (p : Wd) : List Value := [.int .i64 p.kind, .string p.text, .int .i64 p.place]
def wds (L : List Wd) : List Value := L.flatMap Wd.cells
theorem wds_app (L M : List Wd) : wds (L ++ M) = wds L ++ wds M := by unfold wds; rw [List.flatMap_append]

/-- a slice of words -/
def WdsV (w : World) (v : Value) (L : List Wd) : Prop := CellsV w v L.length (wds L)
theorem WdsV.below {w w' : World} {v : Value} {L : List Wd} (h : WdsV w v L) (hb : Below w.heap.size w w') : WdsV w' v L := CellsV.below h hb

end
section
open Go.RowKit
set_option linter.unusedVariables false
end
end Go.Proofs.YtnoppoifepbchaaDoor
