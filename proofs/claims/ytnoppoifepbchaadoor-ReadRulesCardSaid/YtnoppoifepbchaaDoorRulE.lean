/- What these texts read as: the kernel's run. -/
import Derived.Test.YtnoppoifepbchaaDoorRul0
namespace Go.Proofs.YtnoppoifepbchaaDoor
open Go.RowKit
set_option linter.unusedVariables false
set_option linter.unusedSimpArgs false

theorem r8_tftf : piece [true, false, true, false] 4 8 = true := by decide +kernel
theorem r8_fftf : piece [false, false, true, false] 4 8 = true := by decide +kernel
theorem r8_ttff : piece [true, true, false, false] 4 8 = true := by decide +kernel
theorem r8_ftff : piece [false, true, false, false] 4 8 = true := by decide +kernel
theorem r8_tfff : piece [true, false, false, false] 4 8 = true := by decide +kernel
theorem r8_ffff : piece [false, false, false, false] 4 8 = true := by decide +kernel

end Go.Proofs.YtnoppoifepbchaaDoor
