/- What the document fixes of rows. -/
import Derived.Test.YthhhpaodgmhiiaaRun
import Derived.KernelRfl
namespace Go.Proofs.Ythhhpaodgmhiiaa
open Go.RowKit

theorem rowsWakes_run : okT (callF Try.prog 100000 5 [] Hp.none) = true := by kernel_rfl
theorem rowsWakes_any (w : World) : Calls Try.prog 5 #[] w fun e w' => e = .returned (.bool true) ∧ Below w.heap.size w w' :=
  run_true 100000 5 rowsWakes_run w
end Go.Proofs.Ythhhpaodgmhiiaa
