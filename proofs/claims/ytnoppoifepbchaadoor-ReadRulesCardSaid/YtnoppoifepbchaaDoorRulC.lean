/- What these texts read as: the kernel's run. -/
import Derived.Test.YtnoppoifepbchaaDoorRul0
namespace Go.Proofs.YtnoppoifepbchaaDoor
open Go.RowKit
set_option linter.unusedVariables false
set_option linter.unusedSimpArgs false

theorem r8_tttt : piece [true, true, true, true] 4 8 = true := by decide +kernel
theorem r8_fttt : piece [false, true, true, true] 4 8 = true := by decide +kernel
theorem r8_tftt : piece [true, false, true, true] 4 8 = true := by decide +kernel
theorem r8_fftt : piece [false, false, true, true] 4 8 = true := by decide +kernel
theorem r8_ttft : piece [true, true, false, true] 4 8 = true := by decide +kernel

end Go.Proofs.YtnoppoifepbchaaDoor
