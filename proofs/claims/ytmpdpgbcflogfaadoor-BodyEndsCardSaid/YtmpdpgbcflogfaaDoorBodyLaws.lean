/- The walks of the laws on actions' texts, as the frames call them. -/
import Derived.Test.YtmpdpgbcflogfaaDoorBodyWakes
namespace Go.Proofs.YtmpdpgbcflogfaaDoor
open Go.RowKit

theorem bodyEnds_law (s : ByteArray) (i : Int) (hs : s.size ≤ maxLen) (_ : (Lit.int .i64 i).wf = true) {w : World} (hE : Env w) :
    Calls Tryd.prog 3 #[.string s, .int .i64 i] w fun e w' => e = .returned (.bool true) ∧ Below w.heap.size w w' := bodyEnds_walk s i w hs hE

end Go.Proofs.YtmpdpgbcflogfaaDoor
