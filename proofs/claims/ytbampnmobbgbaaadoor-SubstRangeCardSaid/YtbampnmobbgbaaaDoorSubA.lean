/- SubstRange: the runs, by the kernel. -/
import Derived.Test.YtbampnmobbgbaaaDoorSub0
import Derived.KernelRfl
namespace Go.Proofs.YtbampnmobbgbaaaDoor
open Go.RowKit
theorem sub_0a : rowB (fun i => subOk i 0) [0, 1, 2, 3, 4, 5] = true := by kernel_rfl
theorem sub_0b : rowB (fun i => subOk i 0) [6, 7, 8, 9, 10, 11] = true := by kernel_rfl
theorem sub_1a : rowB (fun i => subOk i 1) [0, 1, 2, 3, 4, 5] = true := by kernel_rfl
theorem sub_1b : rowB (fun i => subOk i 1) [6, 7, 8, 9, 10, 11] = true := by kernel_rfl
end Go.Proofs.YtbampnmobbgbaaaDoor
