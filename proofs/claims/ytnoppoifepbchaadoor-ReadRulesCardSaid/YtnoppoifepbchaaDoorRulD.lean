/- What these texts read as: the kernel's run. -/
import Derived.Test.YtnoppoifepbchaaDoorRul0
namespace Go.Proofs.YtnoppoifepbchaaDoor
open Go.RowKit
set_option linter.unusedVariables false
set_option linter.unusedSimpArgs false

theorem r8_ftft : piece [false, true, false, true] 4 8 = true := by decide +kernel
theorem r8_tfft : piece [true, false, false, true] 4 8 = true := by decide +kernel
theorem r8_ffft : piece [false, false, false, true] 4 8 = true := by decide +kernel
theorem r8_tttf : piece [true, true, true, false] 4 8 = true := by decide +kernel
theorem r8_fttf : piece [false, true, true, false] 4 8 = true := by decide +kernel

end Go.Proofs.YtnoppoifepbchaaDoor
