/- The walks of the laws on actions' texts, as the frames call them. -/
import Derived.Test.YtmpdpgbcflogfaaDoorBodyJoins
import Derived.Test.YtmpdpgbcflogfaaDoorBodyParts
import Derived.Test.YtmpdpgbcflogfaaDoorBodySkips
import Derived.Test.YtmpdpgbcflogfaaDoorBodyBack
namespace Go.Proofs.YtmpdpgbcflogfaaDoor
open Go.RowKit

theorem bodyEnds_law (s : ByteArray) (i : Int) (hs : s.size ≤ maxLen) (_ : (Lit.int .i64 i).wf = true) {w : World} (hE : Env w) :
    Calls Tryd.prog 3 #[.string s, .int .i64 i] w fun e w' => e = .returned (.bool true) ∧ Below w.heap.size w w' := bodyEnds_walk s i w hs hE

theorem bodyJoins_law (v : Value) (L : List Pc) {w : World} (h : PcsIn w v L) (hE : Env w) :
    Calls Tryd.prog 4 #[v] w fun e w' => e = .returned (.bool true) ∧ Below w.heap.size w w' := bodyJoins_walk v L w h hE
theorem bodyParts_law (n : Int) (t : Bool) (z : Int) (hn : (Lit.int .i64 n).wf = true) (hz : (Lit.int .i64 z).wf = true) {w : World} (hE : Env w) :
    Calls Tryd.prog 7 #[.int .i64 n, .bool t, .int .i64 z] w fun e w' => e = .returned (.bool true) ∧ Below w.heap.size w w' := bodyParts_walk n t z w hn hz hE

theorem bodySkips_law (s : ByteArray) (k : Int) (hs : s.size ≤ maxLen) (hk : (Lit.int .i64 k).wf = true) {w : World} (hE : Env w) :
    Calls Tryd.prog 6 #[.string s, .int .i64 k] w fun e w' => e = .returned (.bool true) ∧ Below w.heap.size w w' := bodySkips_walk s k w hs hk hE

theorem bodyBack_law (s : ByteArray) (hs : s.size ≤ maxLen) {w : World} (hE : Env w) :
    Calls Tryd.prog 5 #[.string s] w fun e w' => e = .returned (.bool true) ∧ Below w.heap.size w w' := bodyBack_walk s w hs hE

end Go.Proofs.YtmpdpgbcflogfaaDoor
