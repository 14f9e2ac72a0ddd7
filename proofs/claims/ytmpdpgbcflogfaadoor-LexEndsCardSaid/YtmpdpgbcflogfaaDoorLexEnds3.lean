/- The law LexEnds, as its frame calls it. -/
import Derived.Test.YtmpdpgbcflogfaaDoorLexEnds2
import Derived.Test.YtmpdpgbcflogfaaDoorLex18
namespace Go.Proofs.YtmpdpgbcflogfaaDoor
open Go.RowKit

theorem lexEnds_law (t a : ByteArray) (ht : t.size ≤ maxLen) (ha : a.size ≤ maxLen) {w : World} (hE : LexEnv w) :
    Calls Tryd.prog 11 #[.string t, .string a] w fun e w' => e = .returned (.bool true) ∧ Below w.heap.size w w' := lexEnds_walk t a w ht ha hE both

end Go.Proofs.YtmpdpgbcflogfaaDoor
