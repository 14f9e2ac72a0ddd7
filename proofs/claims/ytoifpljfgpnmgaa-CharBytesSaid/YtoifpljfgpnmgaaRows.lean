/-
  No cell of these rows narrows 'for every input' (looked for: loops, veiled, ifaces, maps, wideKeys, modest, calm, conditions, laid).
  DERIVED. THE GIVEN ROWS OF THIS SEAT. 3 by the template 'for every input the law returns true; each argument reads behind the call as it read before'; 0 by the template 'total and deterministic' (their statements: YtoifpljfgpnmgaaTotals.lean).
  GIVEN WITH THE SEED: the statements are not yours to turn. If you find one false, say at which input.
  Laid BY PROGRAM, IN A SANDBOX (cutbox-rows.mjs): the forced cells as the released guide's own fill.sh prints them over the translation e5aeb8fcb7e663da… (all of the seat's roots in one cut). By AI agents, Wed Nov 11 2026. No macro, syntax, notation, axiom, sorry.
-/
import Derived.Test.YtoifpljfgpnmgaaChecked
import GoSem.Claim
import GoSem.ClaimJoined
import GoSem.ClaimMapViews
import Derived.JoinedTies
import Derived.KernelRfl
namespace Go.Proofs.Ytoifpljfgpnmgaa
/- THE CELL 'sum', in the pinned program and in every row, IS THE sha256 OF THE DUMP (.gsa) THAT YtoifpljfgpnmgaaProg.lean LOADS. Nothing in Lean hashes anything: it is a label: what it is worth is what the hold of that sum in a sandbox is worth. -/
noncomputable def Try.pinned : Pinned := { name := "ytoifpljfgpnmgaa", sum := "e5aeb8fcb7e663dabd9917b8e193f61b9bc674f5931bf48d6e8f3ef7e558faed", checked := Try.checked }
namespace Rows
def none {H : Type} : Left H := { results := [], args := [] }

/-- 'yuccalaw4.CharTakes': WHATEVER THE INPUT: true; the input reads as it did. -/
def charTakesSpec : ChangeSpec := { name := "charTakes", fn := fun _ => fun
  | [d1, d2, d3] => { results := [.lit (.bool true)], args := [d1, d2, d3] }
  | _ => none }
def charTakesRow : OpenClaim := { program := "ytoifpljfgpnmgaa", sum := "e5aeb8fcb7e663dabd9917b8e193f61b9bc674f5931bf48d6e8f3ef7e558faed", func := "yucca/yuccalaw4.CharTakes", spec := "charTakes", apart := false }
def CharTakesSaid : Prop := charTakesRow.holds Try.pinned (OpenSpec.ofChange charTakesSpec)

/-- ITS FALSE NEIGHBOUR: 'it returns false'. Refute it at one input. -/
def charTakesWrong : ChangeSpec := { name := "charTakes", fn := fun _ => fun
  | [d1, d2, d3] => { results := [.lit (.bool false)], args := [d1, d2, d3] }
  | _ => none }
def CharTakesWrongFalsely : Prop := charTakesRow.holds Try.pinned (OpenSpec.ofChange charTakesWrong)

/-- 'yuccalaw4.CharBack': WHATEVER THE INPUT: true; the input reads as it did. -/
def charBackSpec : ChangeSpec := { name := "charBack", fn := fun _ => fun
  | [d1, d2, d3] => { results := [.lit (.bool true)], args := [d1, d2, d3] }
  | _ => none }
def charBackRow : OpenClaim := { program := "ytoifpljfgpnmgaa", sum := "e5aeb8fcb7e663dabd9917b8e193f61b9bc674f5931bf48d6e8f3ef7e558faed", func := "yucca/yuccalaw4.CharBack", spec := "charBack", apart := false }
def CharBackSaid : Prop := charBackRow.holds Try.pinned (OpenSpec.ofChange charBackSpec)

/-- ITS FALSE NEIGHBOUR: 'it returns false'. Refute it at one input. -/
def charBackWrong : ChangeSpec := { name := "charBack", fn := fun _ => fun
  | [d1, d2, d3] => { results := [.lit (.bool false)], args := [d1, d2, d3] }
  | _ => none }
def CharBackWrongFalsely : Prop := charBackRow.holds Try.pinned (OpenSpec.ofChange charBackWrong)

/-- 'yuccalaw4.CharBytes': WHATEVER THE INPUT: true; the input reads as it did. -/
def charBytesSpec : ChangeSpec := { name := "charBytes", fn := fun _ => fun
  | [d1, d2, d3] => { results := [.lit (.bool true)], args := [d1, d2, d3] }
  | _ => none }
def charBytesRow : OpenClaim := { program := "ytoifpljfgpnmgaa", sum := "e5aeb8fcb7e663dabd9917b8e193f61b9bc674f5931bf48d6e8f3ef7e558faed", func := "yucca/yuccalaw4.CharBytes", spec := "charBytes", apart := false }
def CharBytesSaid : Prop := charBytesRow.holds Try.pinned (OpenSpec.ofChange charBytesSpec)

/-- ITS FALSE NEIGHBOUR: 'it returns false'. Refute it at one input. -/
def charBytesWrong : ChangeSpec := { name := "charBytes", fn := fun _ => fun
  | [d1, d2, d3] => { results := [.lit (.bool false)], args := [d1, d2, d3] }
  | _ => none }
def CharBytesWrongFalsely : Prop := charBytesRow.holds Try.pinned (OpenSpec.ofChange charBytesWrong)

/- THE SECOND FORM. 'bulk': how many values and letters a reading holds, each counted each time it is reached (what is shared counts as often as it is met; a slice's spare places count too). A statement '..UptoSaid' is the law's where the arguments, and the package variables that the reading takes, are together of bulk at most 1048576: NARROWER than '..Said'. Prove '..Said' where nothing that the law and all that it calls make is longer than what came in: it says more and counts as full. Else prove '..UptoSaid'. A law counts once. -/
mutual
def uptoBulk {H : Type} : DataW H → Nat
  | .lit (.string bytes) => bytes.length + 1
  | .lit _ => 1
  | .nil => 1
  | .ptr d => uptoBulk d + 1
  | .slice elems spare => uptoBulkAll elems + uptoBulkAll spare + 1
  | .agg parts => uptoBulkAll parts + 1
  | .iface _ d => uptoBulk d + 1
  | .map entries => uptoBulkEntries entries + 1
  | .held _ => 1
def uptoBulkAll {H : Type} : List (DataW H) → Nat
  | [] => 0
  | d :: r => uptoBulk d + uptoBulkAll r
def uptoBulkEntries {H : Type} : List (Lit × DataW H) → Nat
  | [] => 0
  | x :: r => uptoBulkEntry x + uptoBulkEntries r
def uptoBulkEntry {H : Type} : Lit × DataW H → Nat
  | (.string bytes, d) => bytes.length + uptoBulk d + 1
  | (_, d) => uptoBulk d + 1
 end
def uptoSmall : (H : Type) → List (DataW H) → Bool := fun _ ds => decide (uptoBulkAll ds ≤ 1048576)
def OpenSpec.upto (s : _root_.Go.ChangeSpec) : _root_.Go.OpenSpec := { _root_.Go.OpenSpec.ofChange s with cond := some uptoSmall }

/-- 'yuccalaw4.CharTakes', WHERE WHAT IT READS IS OF BULK AT MOST 1048576: true; the input reads as it did. -/
def charTakesUptoRow : OpenClaim := { program := "ytoifpljfgpnmgaa", sum := "e5aeb8fcb7e663dabd9917b8e193f61b9bc674f5931bf48d6e8f3ef7e558faed", func := "yucca/yuccalaw4.CharTakes", spec := "charTakes", apart := false, narrowed := true }
def CharTakesUptoSaid : Prop := charTakesUptoRow.holds Try.pinned (OpenSpec.upto charTakesSpec)

/-- 'yuccalaw4.CharBack', WHERE WHAT IT READS IS OF BULK AT MOST 1048576: true; the input reads as it did. -/
def charBackUptoRow : OpenClaim := { program := "ytoifpljfgpnmgaa", sum := "e5aeb8fcb7e663dabd9917b8e193f61b9bc674f5931bf48d6e8f3ef7e558faed", func := "yucca/yuccalaw4.CharBack", spec := "charBack", apart := false, narrowed := true }
def CharBackUptoSaid : Prop := charBackUptoRow.holds Try.pinned (OpenSpec.upto charBackSpec)

/-- 'yuccalaw4.CharBytes', WHERE WHAT IT READS IS OF BULK AT MOST 1048576: true; the input reads as it did. -/
def charBytesUptoRow : OpenClaim := { program := "ytoifpljfgpnmgaa", sum := "e5aeb8fcb7e663dabd9917b8e193f61b9bc674f5931bf48d6e8f3ef7e558faed", func := "yucca/yuccalaw4.CharBytes", spec := "charBytes", apart := false, narrowed := true }
def CharBytesUptoSaid : Prop := charBytesUptoRow.holds Try.pinned (OpenSpec.upto charBytesSpec)

end Rows
end Go.Proofs.Ytoifpljfgpnmgaa
