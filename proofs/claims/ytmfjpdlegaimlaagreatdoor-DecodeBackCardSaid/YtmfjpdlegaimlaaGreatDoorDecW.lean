/- What the document fixes of tables that are read. -/
import Derived.Test.YtmfjpdlegaimlaaGreatDoorExtD
import Derived.KernelRfl
namespace Go.Proofs.YtmfjpdlegaimlaaGreatDoor
open Go.RowKit
theorem wakes29_run : okT (callX Tryz.prog XD 100000 5 [] Hp.none) = true := by kernel_rfl
theorem wakes29_any (w : World) (hE : Env w) : Calls Tryz.prog 5 #[] w fun e w' => e = .returned (.bool true) ∧ Below w.heap.size w w' :=
  run_envD hE 100000 5 wakes29_run
end Go.Proofs.YtmfjpdlegaimlaaGreatDoor
