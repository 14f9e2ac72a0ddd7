/- What these texts read as: the kernel's run. -/
import Derived.Test.YtnoppoifepbchaaDoorRul0
namespace Go.Proofs.YtnoppoifepbchaaDoor
open Go.RowKit
set_option linter.unusedVariables false
set_option linter.unusedSimpArgs false

theorem r1_ : piece [] 1 1 = true := by decide +kernel
theorem r2_ : piece [] 2 2 = true := by decide +kernel
theorem r3_ : piece [] 3 3 = true := by decide +kernel
theorem r4_ : piece [] 4 4 = true := by decide +kernel
theorem r5_t : piece [true] 4 5 = true := by decide +kernel
theorem r5_f : piece [false] 4 5 = true := by decide +kernel
theorem r6_tt : piece [true, true] 4 6 = true := by decide +kernel
theorem r6_ft : piece [false, true] 4 6 = true := by decide +kernel
theorem r6_tf : piece [true, false] 4 6 = true := by decide +kernel
theorem r6_ff : piece [false, false] 4 6 = true := by decide +kernel

end Go.Proofs.YtnoppoifepbchaaDoor
