/-
  NARROWER THAN 'FOR EVERY INPUT', by the rows' own cells (each row's printed sentence says how): CombLays: laid · CombGets: laid · CombFits: laid · CombLeast: laid · CombTurned: laid · CombFull: laid.
  DERIVED. THE GIVEN ROWS OF THIS SEAT. 6 by the template 'for every input the law returns true; each argument reads behind the call as it read before'; 0 by the template 'total and deterministic' (their statements: YtjeebcnjdhlcfaaDoorTotals.lean).
  GIVEN WITH THE SEED: the statements are not yours to turn. If you find one false, say at which input.
  Laid BY PROGRAM, IN A SANDBOX (cutbox-rows.mjs): the forced cells as the released guide's own fill.sh prints them over the translation dc844a66cb3f7296… (all of the seat's roots in one cut). By AI agents, Wed Nov 11 2026. No macro, syntax, notation, axiom, sorry.
-/
import Derived.Test.YtjeebcnjdhlcfaaDoorChecked
import GoSem.Claim
import GoSem.ClaimJoined
import GoSem.ClaimMapViews
import Derived.JoinedTies
import Derived.KernelRfl
namespace Go.Proofs.YtjeebcnjdhlcfaaDoor
/- THE CELL 'sum', in the pinned program and in every row, IS THE sha256 OF THE DUMP (.gsa) THAT YtjeebcnjdhlcfaaDoorProg.lean LOADS. Nothing in Lean hashes anything: it is a label: what it is worth is what the hold of that sum in a sandbox is worth. -/
noncomputable def Tryd.pinned : Pinned := { name := "ytjeebcnjdhlcfaadoor", sum := "dc844a66cb3f72961e51ec082cc034e1a71207fb0527d9fe593f20a0ee7f76ce", checked := Tryd.checked }
namespace Rows
def none {H : Type} : Left H := { results := [], args := [] }

/- WHAT THE LISTED PACKAGE-LEVEL VARIABLES READ AS WHEN THE CALL BEGINS. Each datum BY PROGRAM (the guide's laid-datum.mjs) off the statement by which the dump's own 'gosem.cut.vars' lays the variable. In a bare row this is a premise. The card (YtjeebcnjdhlcfaaDoorCards.lean) ties it to the program's text. -/
def laid_math_bits_deBruijn64tab {H : Type} : DataW H := .agg [.lit (.int .u8 0), .lit (.int .u8 1), .lit (.int .u8 56), .lit (.int .u8 2), .lit (.int .u8 57), .lit (.int .u8 49), .lit (.int .u8 28), .lit (.int .u8 3), .lit (.int .u8 61), .lit (.int .u8 58), .lit (.int .u8 42), .lit (.int .u8 50), .lit (.int .u8 38), .lit (.int .u8 29), .lit (.int .u8 17), .lit (.int .u8 4), .lit (.int .u8 62), .lit (.int .u8 47), .lit (.int .u8 59), .lit (.int .u8 36), .lit (.int .u8 45), .lit (.int .u8 43), .lit (.int .u8 51), .lit (.int .u8 22), .lit (.int .u8 53), .lit (.int .u8 39), .lit (.int .u8 33), .lit (.int .u8 30), .lit (.int .u8 24), .lit (.int .u8 18), .lit (.int .u8 12), .lit (.int .u8 5), .lit (.int .u8 63), .lit (.int .u8 55), .lit (.int .u8 48), .lit (.int .u8 27), .lit (.int .u8 60), .lit (.int .u8 41), .lit (.int .u8 37), .lit (.int .u8 16), .lit (.int .u8 46), .lit (.int .u8 35), .lit (.int .u8 44), .lit (.int .u8 21), .lit (.int .u8 52), .lit (.int .u8 32), .lit (.int .u8 23), .lit (.int .u8 11), .lit (.int .u8 54), .lit (.int .u8 26), .lit (.int .u8 40), .lit (.int .u8 15), .lit (.int .u8 34), .lit (.int .u8 20), .lit (.int .u8 31), .lit (.int .u8 10), .lit (.int .u8 25), .lit (.int .u8 14), .lit (.int .u8 19), .lit (.int .u8 9), .lit (.int .u8 13), .lit (.int .u8 8), .lit (.int .u8 7), .lit (.int .u8 6)]

/-- 'yuccalaw23.CombLays': WHATEVER THE INPUT: true; the input reads as it did. -/
def combLaysSpec : ChangeSpec := { name := "combLays", fn := fun _ => fun
  | [d1, d2, d3] => { results := [.lit (.bool true)], args := [d1, d2, d3] }
  | _ => none }
def combLaysRow : OpenClaim := { program := "ytjeebcnjdhlcfaadoor", sum := "dc844a66cb3f72961e51ec082cc034e1a71207fb0527d9fe593f20a0ee7f76ce", func := "yucca/yuccalaw23.CombLays", spec := "combLays", unfollowed := true, recurses := true, named := ["math/bits.deBruijn64tab"], apart := false, laid := [("math/bits.deBruijn64tab", laid_math_bits_deBruijn64tab)] }
def CombLaysSaid : Prop := combLaysRow.holds Tryd.pinned (OpenSpec.ofChange combLaysSpec)

/-- ITS FALSE NEIGHBOUR: 'it returns false'. Refute it at one input. -/
def combLaysWrong : ChangeSpec := { name := "combLays", fn := fun _ => fun
  | [d1, d2, d3] => { results := [.lit (.bool false)], args := [d1, d2, d3] }
  | _ => none }
def CombLaysWrongFalsely : Prop := combLaysRow.holds Tryd.pinned (OpenSpec.ofChange combLaysWrong)

/-- 'yuccalaw23.CombGets': WHATEVER THE INPUT: true; the input reads as it did. -/
def combGetsSpec : ChangeSpec := { name := "combGets", fn := fun _ => fun
  | [d1, d2, d3, d4] => { results := [.lit (.bool true)], args := [d1, d2, d3, d4] }
  | _ => none }
def combGetsRow : OpenClaim := { program := "ytjeebcnjdhlcfaadoor", sum := "dc844a66cb3f72961e51ec082cc034e1a71207fb0527d9fe593f20a0ee7f76ce", func := "yucca/yuccalaw23.CombGets", spec := "combGets", unfollowed := true, recurses := true, named := ["math/bits.deBruijn64tab"], apart := false, laid := [("math/bits.deBruijn64tab", laid_math_bits_deBruijn64tab)] }
def CombGetsSaid : Prop := combGetsRow.holds Tryd.pinned (OpenSpec.ofChange combGetsSpec)

/-- ITS FALSE NEIGHBOUR: 'it returns false'. Refute it at one input. -/
def combGetsWrong : ChangeSpec := { name := "combGets", fn := fun _ => fun
  | [d1, d2, d3, d4] => { results := [.lit (.bool false)], args := [d1, d2, d3, d4] }
  | _ => none }
def CombGetsWrongFalsely : Prop := combGetsRow.holds Tryd.pinned (OpenSpec.ofChange combGetsWrong)

/-- 'yuccalaw23.CombFits': WHATEVER THE INPUT: true; the input reads as it did. -/
def combFitsSpec : ChangeSpec := { name := "combFits", fn := fun _ => fun
  | [d1, d2] => { results := [.lit (.bool true)], args := [d1, d2] }
  | _ => none }
def combFitsRow : OpenClaim := { program := "ytjeebcnjdhlcfaadoor", sum := "dc844a66cb3f72961e51ec082cc034e1a71207fb0527d9fe593f20a0ee7f76ce", func := "yucca/yuccalaw23.CombFits", spec := "combFits", unfollowed := true, recurses := true, named := ["math/bits.deBruijn64tab"], apart := false, laid := [("math/bits.deBruijn64tab", laid_math_bits_deBruijn64tab)] }
def CombFitsSaid : Prop := combFitsRow.holds Tryd.pinned (OpenSpec.ofChange combFitsSpec)

/-- ITS FALSE NEIGHBOUR: 'it returns false'. Refute it at one input. -/
def combFitsWrong : ChangeSpec := { name := "combFits", fn := fun _ => fun
  | [d1, d2] => { results := [.lit (.bool false)], args := [d1, d2] }
  | _ => none }
def CombFitsWrongFalsely : Prop := combFitsRow.holds Tryd.pinned (OpenSpec.ofChange combFitsWrong)

/-- 'yuccalaw23.CombLeast': WHATEVER THE INPUT: true; the input reads as it did. -/
def combLeastSpec : ChangeSpec := { name := "combLeast", fn := fun _ => fun
  | [d1, d2] => { results := [.lit (.bool true)], args := [d1, d2] }
  | _ => none }
def combLeastRow : OpenClaim := { program := "ytjeebcnjdhlcfaadoor", sum := "dc844a66cb3f72961e51ec082cc034e1a71207fb0527d9fe593f20a0ee7f76ce", func := "yucca/yuccalaw23.CombLeast", spec := "combLeast", unfollowed := true, recurses := true, named := ["math/bits.deBruijn64tab"], apart := false, laid := [("math/bits.deBruijn64tab", laid_math_bits_deBruijn64tab)] }
def CombLeastSaid : Prop := combLeastRow.holds Tryd.pinned (OpenSpec.ofChange combLeastSpec)

/-- ITS FALSE NEIGHBOUR: 'it returns false'. Refute it at one input. -/
def combLeastWrong : ChangeSpec := { name := "combLeast", fn := fun _ => fun
  | [d1, d2] => { results := [.lit (.bool false)], args := [d1, d2] }
  | _ => none }
def CombLeastWrongFalsely : Prop := combLeastRow.holds Tryd.pinned (OpenSpec.ofChange combLeastWrong)

/-- 'yuccalaw23.CombTurned': WHATEVER THE INPUT: true; the input reads as it did. -/
def combTurnedSpec : ChangeSpec := { name := "combTurned", fn := fun _ => fun
  | [d1, d2] => { results := [.lit (.bool true)], args := [d1, d2] }
  | _ => none }
def combTurnedRow : OpenClaim := { program := "ytjeebcnjdhlcfaadoor", sum := "dc844a66cb3f72961e51ec082cc034e1a71207fb0527d9fe593f20a0ee7f76ce", func := "yucca/yuccalaw23.CombTurned", spec := "combTurned", unfollowed := true, recurses := true, named := ["math/bits.deBruijn64tab"], apart := false, laid := [("math/bits.deBruijn64tab", laid_math_bits_deBruijn64tab)] }
def CombTurnedSaid : Prop := combTurnedRow.holds Tryd.pinned (OpenSpec.ofChange combTurnedSpec)

/-- ITS FALSE NEIGHBOUR: 'it returns false'. Refute it at one input. -/
def combTurnedWrong : ChangeSpec := { name := "combTurned", fn := fun _ => fun
  | [d1, d2] => { results := [.lit (.bool false)], args := [d1, d2] }
  | _ => none }
def CombTurnedWrongFalsely : Prop := combTurnedRow.holds Tryd.pinned (OpenSpec.ofChange combTurnedWrong)

/-- 'yuccalaw23.CombFull': WHATEVER THE INPUT: true; the input reads as it did. -/
def combFullSpec : ChangeSpec := { name := "combFull", fn := fun _ => fun
  | [d1, d2, d3] => { results := [.lit (.bool true)], args := [d1, d2, d3] }
  | _ => none }
def combFullRow : OpenClaim := { program := "ytjeebcnjdhlcfaadoor", sum := "dc844a66cb3f72961e51ec082cc034e1a71207fb0527d9fe593f20a0ee7f76ce", func := "yucca/yuccalaw23.CombFull", spec := "combFull", unfollowed := true, recurses := true, named := ["math/bits.deBruijn64tab"], apart := false, laid := [("math/bits.deBruijn64tab", laid_math_bits_deBruijn64tab)] }
def CombFullSaid : Prop := combFullRow.holds Tryd.pinned (OpenSpec.ofChange combFullSpec)

/-- ITS FALSE NEIGHBOUR: 'it returns false'. Refute it at one input. -/
def combFullWrong : ChangeSpec := { name := "combFull", fn := fun _ => fun
  | [d1, d2, d3] => { results := [.lit (.bool false)], args := [d1, d2, d3] }
  | _ => none }
def CombFullWrongFalsely : Prop := combFullRow.holds Tryd.pinned (OpenSpec.ofChange combFullWrong)

/- THE SECOND FORM. 'bulk': how many values and letters a reading holds, each counted each time it is reached (what is shared counts as often as it is met; a slice's spare places count too). A statement '..UptoSaid' is the law's where the arguments, and the package variables that the reading takes, are together of bulk at most 1048576: NARROWER than '..Said'. Prove '..Said' where nothing that the law and all that it calls make is longer than what came in: it says more and counts as full. Else prove '..UptoSaid'. A law counts once. -/
mutual
def uptoBulk {H : Type} : DataW H → Nat
  | .lit (.string bytes) => bytes.length + 1
  | .lit _ => 1
  | .nil => 1
  | .ptr d => uptoBulk d + 1
  | .slice elems spare => uptoBulkAll elems + uptoBulkAll spare + 1
  | .agg parts => uptoBulkAll parts + 1
  | .iface _ d => uptoBulk d + 1
  | .map entries => uptoBulkEntries entries + 1
  | .held _ => 1
def uptoBulkAll {H : Type} : List (DataW H) → Nat
  | [] => 0
  | d :: r => uptoBulk d + uptoBulkAll r
def uptoBulkEntries {H : Type} : List (Lit × DataW H) → Nat
  | [] => 0
  | x :: r => uptoBulkEntry x + uptoBulkEntries r
def uptoBulkEntry {H : Type} : Lit × DataW H → Nat
  | (.string bytes, d) => bytes.length + uptoBulk d + 1
  | (_, d) => uptoBulk d + 1
 end
def uptoSmall : (H : Type) → List (DataW H) → Bool := fun _ ds => decide (uptoBulkAll ds ≤ 1048576)
def OpenSpec.upto (s : _root_.Go.ChangeSpec) : _root_.Go.OpenSpec := { _root_.Go.OpenSpec.ofChange s with cond := some uptoSmall }

/-- 'yuccalaw23.CombLays', WHERE WHAT IT READS IS OF BULK AT MOST 1048576: true; the input reads as it did. -/
def combLaysUptoRow : OpenClaim := { program := "ytjeebcnjdhlcfaadoor", sum := "dc844a66cb3f72961e51ec082cc034e1a71207fb0527d9fe593f20a0ee7f76ce", func := "yucca/yuccalaw23.CombLays", spec := "combLays", unfollowed := true, recurses := true, named := ["math/bits.deBruijn64tab"], apart := false, laid := [("math/bits.deBruijn64tab", laid_math_bits_deBruijn64tab)], narrowed := true }
def CombLaysUptoSaid : Prop := combLaysUptoRow.holds Tryd.pinned (OpenSpec.upto combLaysSpec)

/-- 'yuccalaw23.CombGets', WHERE WHAT IT READS IS OF BULK AT MOST 1048576: true; the input reads as it did. -/
def combGetsUptoRow : OpenClaim := { program := "ytjeebcnjdhlcfaadoor", sum := "dc844a66cb3f72961e51ec082cc034e1a71207fb0527d9fe593f20a0ee7f76ce", func := "yucca/yuccalaw23.CombGets", spec := "combGets", unfollowed := true, recurses := true, named := ["math/bits.deBruijn64tab"], apart := false, laid := [("math/bits.deBruijn64tab", laid_math_bits_deBruijn64tab)], narrowed := true }
def CombGetsUptoSaid : Prop := combGetsUptoRow.holds Tryd.pinned (OpenSpec.upto combGetsSpec)

/-- 'yuccalaw23.CombFits', WHERE WHAT IT READS IS OF BULK AT MOST 1048576: true; the input reads as it did. -/
def combFitsUptoRow : OpenClaim := { program := "ytjeebcnjdhlcfaadoor", sum := "dc844a66cb3f72961e51ec082cc034e1a71207fb0527d9fe593f20a0ee7f76ce", func := "yucca/yuccalaw23.CombFits", spec := "combFits", unfollowed := true, recurses := true, named := ["math/bits.deBruijn64tab"], apart := false, laid := [("math/bits.deBruijn64tab", laid_math_bits_deBruijn64tab)], narrowed := true }
def CombFitsUptoSaid : Prop := combFitsUptoRow.holds Tryd.pinned (OpenSpec.upto combFitsSpec)

/-- 'yuccalaw23.CombLeast', WHERE WHAT IT READS IS OF BULK AT MOST 1048576: true; the input reads as it did. -/
def combLeastUptoRow : OpenClaim := { program := "ytjeebcnjdhlcfaadoor", sum := "dc844a66cb3f72961e51ec082cc034e1a71207fb0527d9fe593f20a0ee7f76ce", func := "yucca/yuccalaw23.CombLeast", spec := "combLeast", unfollowed := true, recurses := true, named := ["math/bits.deBruijn64tab"], apart := false, laid := [("math/bits.deBruijn64tab", laid_math_bits_deBruijn64tab)], narrowed := true }
def CombLeastUptoSaid : Prop := combLeastUptoRow.holds Tryd.pinned (OpenSpec.upto combLeastSpec)

/-- 'yuccalaw23.CombTurned', WHERE WHAT IT READS IS OF BULK AT MOST 1048576: true; the input reads as it did. -/
def combTurnedUptoRow : OpenClaim := { program := "ytjeebcnjdhlcfaadoor", sum := "dc844a66cb3f72961e51ec082cc034e1a71207fb0527d9fe593f20a0ee7f76ce", func := "yucca/yuccalaw23.CombTurned", spec := "combTurned", unfollowed := true, recurses := true, named := ["math/bits.deBruijn64tab"], apart := false, laid := [("math/bits.deBruijn64tab", laid_math_bits_deBruijn64tab)], narrowed := true }
def CombTurnedUptoSaid : Prop := combTurnedUptoRow.holds Tryd.pinned (OpenSpec.upto combTurnedSpec)

/-- 'yuccalaw23.CombFull', WHERE WHAT IT READS IS OF BULK AT MOST 1048576: true; the input reads as it did. -/
def combFullUptoRow : OpenClaim := { program := "ytjeebcnjdhlcfaadoor", sum := "dc844a66cb3f72961e51ec082cc034e1a71207fb0527d9fe593f20a0ee7f76ce", func := "yucca/yuccalaw23.CombFull", spec := "combFull", unfollowed := true, recurses := true, named := ["math/bits.deBruijn64tab"], apart := false, laid := [("math/bits.deBruijn64tab", laid_math_bits_deBruijn64tab)], narrowed := true }
def CombFullUptoSaid : Prop := combFullUptoRow.holds Tryd.pinned (OpenSpec.upto combFullSpec)

end Rows
end Go.Proofs.YtjeebcnjdhlcfaaDoor
