/- The law LexJoins, as its frame calls it. -/
import Derived.Test.YtmpdpgbcflogfaaDoorLexJoins4
import Derived.Test.YtmpdpgbcflogfaaDoorLex18
namespace Go.Proofs.YtmpdpgbcflogfaaDoor
open Go.RowKit

theorem lexJoins_law (s : ByteArray) (n : Int) (hs : s.size ≤ maxLen) (hn : (Lit.int .i64 n).wf = true) {w : World} (hE : LexEnv w) :
    Calls Tryd.prog 10 #[.string s, .int .i64 n] w fun e w' => e = .returned (.bool true) ∧ Below w.heap.size w w' := by
  obtain ⟨ja, ha⟩ := Int.eq_ofNat_of_zero_le (Int.emod_nonneg n (show (5 : Int) ≠ 0 by decide))
  have ha5 := Int.emod_lt_of_pos n (show (0 : Int) < 5 by decide)
  obtain ⟨jb, hb⟩ := Int.eq_ofNat_of_zero_le (Int.emod_nonneg (Int.tdiv n 5) (show (5 : Int) ≠ 0 by decide))
  have hb5 := Int.emod_lt_of_pos (Int.tdiv n 5) (show (0 : Int) < 5 by decide)
  exact lexJoins_in s _ n w ja jb _ _ hs rfl hn ha hb rfl rfl (by omega) (by omega) hE both

end Go.Proofs.YtmpdpgbcflogfaaDoor
