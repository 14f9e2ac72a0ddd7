/- SubstRange: the runs, by the kernel. -/
import Derived.Test.YtbampnmobbgbaaaDoorSub0
import Derived.KernelRfl
namespace Go.Proofs.YtbampnmobbgbaaaDoor
open Go.RowKit
theorem sub_4a : rowB (fun i => subOk i 4) [0, 1, 2, 3] = true := by kernel_rfl
theorem sub_4b : rowB (fun i => subOk i 4) [4, 5, 6, 7] = true := by kernel_rfl
theorem sub_4c : rowB (fun i => subOk i 4) [8, 9, 10, 11] = true := by kernel_rfl
end Go.Proofs.YtbampnmobbgbaaaDoor
