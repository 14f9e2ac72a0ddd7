/- The document's word: any; its words; what both tell of a text. -/
import Derived.Test.YtnoppoifepbchaaDoorZA
import Derived.Test.YtnoppoifepbchaaDoorLLex8
import Derived.Test.YtnoppoifepbchaaDoorLLex11
import Derived.Test.YtnoppoifepbchaaDoorLLexWakes
namespace Go.Proofs.YtnoppoifepbchaaDoor
open Go.RowKit
set_option linter.unusedVariables false
set_option linter.unusedSimpArgs false
theorem lwords_any (s : ByteArray) (w : World) (hs : s.size ≤ 1000000) (hE : LexEnv w) :
  Calls Tryd.prog 25 #[.string s] w (LWordsTells (wordsS s) w) := by
 unfold wordsS
 by_cases h : 4000 < s.size
 · rw [if_pos h]; exact lwords_long s w hs h
 · rw [if_neg h]; exact lwords_in s w _ (by omega) hE (Lib.hid rfl)
end Go.Proofs.YtnoppoifepbchaaDoor
