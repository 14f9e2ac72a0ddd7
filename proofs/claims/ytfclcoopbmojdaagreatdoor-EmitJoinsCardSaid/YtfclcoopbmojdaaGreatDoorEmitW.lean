/- What the document fixes of Go texts. -/
import Derived.Test.YtfclcoopbmojdaaGreatDoorExt
import Derived.KernelRfl
namespace Go.Proofs.YtfclcoopbmojdaaGreatDoor
open Go.RowKit
theorem wakes28_run : okT (callX Tryz.prog XE 100000 5 [] Hp.none) = true := by kernel_rfl
theorem wakes28_any (w : World) (hE : Env w) : Calls Tryz.prog 5 #[] w fun e w' => e = .returned (.bool true) ∧ Below w.heap.size w w' :=
  run_env hE 100000 5 wakes28_run
end Go.Proofs.YtfclcoopbmojdaaGreatDoor
