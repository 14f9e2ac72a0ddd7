/- What these texts read as: the kernel's run. -/
import Derived.Test.YtnoppoifepbchaaDoorRul0
namespace Go.Proofs.YtnoppoifepbchaaDoor
open Go.RowKit
set_option linter.unusedVariables false
set_option linter.unusedSimpArgs false

theorem r7_ttt : piece [true, true, true] 4 7 = true := by decide +kernel
theorem r7_ftt : piece [false, true, true] 4 7 = true := by decide +kernel
theorem r7_tft : piece [true, false, true] 4 7 = true := by decide +kernel
theorem r7_fft : piece [false, false, true] 4 7 = true := by decide +kernel
theorem r7_ttf : piece [true, true, false] 4 7 = true := by decide +kernel
theorem r7_ftf : piece [false, true, false] 4 7 = true := by decide +kernel
theorem r7_tff : piece [true, false, false] 4 7 = true := by decide +kernel
theorem r7_fff : piece [false, false, false] 4 7 = true := by decide +kernel

end Go.Proofs.YtnoppoifepbchaaDoor
