/- What the document fixes of actions with their names. -/
import Derived.Test.YtbampnmobbgbaaaDoorExtN
import Derived.KernelRfl
namespace Go.Proofs.YtbampnmobbgbaaaDoor
open Go.RowKit
theorem wakes27_run : okT (callX Tryd.prog XE 100000 12 [] Hp.none) = true := by kernel_rfl
theorem wakes27_any (w : World) (hE : Env w) : Calls Tryd.prog 12 #[] w fun e w' => e = .returned (.bool true) ∧ Below w.heap.size w w' :=
  run_env hE 100000 12 wakes27_run
end Go.Proofs.YtbampnmobbgbaaaDoor
