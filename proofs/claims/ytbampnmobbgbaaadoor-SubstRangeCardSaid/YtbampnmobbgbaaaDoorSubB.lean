/- SubstRange: the runs, by the kernel. -/
import Derived.Test.YtbampnmobbgbaaaDoorSub0
import Derived.KernelRfl
namespace Go.Proofs.YtbampnmobbgbaaaDoor
open Go.RowKit
theorem sub_2a : rowB (fun i => subOk i 2) [0, 1, 2, 3, 4, 5] = true := by kernel_rfl
theorem sub_2b : rowB (fun i => subOk i 2) [6, 7, 8, 9, 10, 11] = true := by kernel_rfl
theorem sub_3a : rowB (fun i => subOk i 3) [0, 1, 2, 3, 4, 5] = true := by kernel_rfl
theorem sub_3b : rowB (fun i => subOk i 3) [6, 7, 8, 9, 10, 11] = true := by kernel_rfl
end Go.Proofs.YtbampnmobbgbaaaDoor
