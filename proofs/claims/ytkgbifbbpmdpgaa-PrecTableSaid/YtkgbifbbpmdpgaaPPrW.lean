/- What the document fixes of levels and of numbers. -/
import Derived.Test.YtkgbifbbpmdpgaaPSh25
import Derived.KernelRfl
set_option linter.unusedVariables false
set_option linter.unusedSimpArgs false
namespace Go.Proofs.Ytkgbifbbpmdpgaa

open Go.RowKit
theorem precWakes_run : Sh.okT (Sh.callF Try.prog 100000 10 [] Sh.Hp.none) = true := by kernel_rfl
theorem precWakes_any (w : World) : Calls Try.prog 10 #[] w fun e w' => e = .returned (.bool true) ∧ Below w.heap.size w w' :=
 Sh.run_true 100000 10 precWakes_run w
end Go.Proofs.Ytkgbifbbpmdpgaa
