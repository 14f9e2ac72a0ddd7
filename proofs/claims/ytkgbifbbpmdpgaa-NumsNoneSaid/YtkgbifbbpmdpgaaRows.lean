/-
  No cell of these rows narrows 'for every input' (looked for: loops, veiled, ifaces, maps, wideKeys, modest, calm, conditions, laid).
  DERIVED. THE GIVEN ROWS OF THIS SEAT. 7 by the template 'for every input the law returns true; each argument reads behind the call as it read before'; 0 by the template 'total and deterministic' (their statements: YtkgbifbbpmdpgaaTotals.lean).
  GIVEN WITH THE SEED: the statements are not yours to turn. If you find one false, say at which input.
  Laid BY PROGRAM, IN A SANDBOX (cutbox-rows.mjs): the forced cells as the released guide's own fill.sh prints them over the translation 2f5d766ff9e95c9f… (all of the seat's roots in one cut). By AI agents, Wed Nov 11 2026. No macro, syntax, notation, axiom, sorry.
-/
import Derived.Test.YtkgbifbbpmdpgaaChecked
import GoSem.Claim
import GoSem.ClaimJoined
import GoSem.ClaimMapViews
import Derived.JoinedTies
import Derived.KernelRfl
namespace Go.Proofs.Ytkgbifbbpmdpgaa
/- THE CELL 'sum', in the pinned program and in every row, IS THE sha256 OF THE DUMP (.gsa) THAT YtkgbifbbpmdpgaaProg.lean LOADS. Nothing in Lean hashes anything: it is a label: what it is worth is what the hold of that sum in a sandbox is worth. -/
noncomputable def Try.pinned : Pinned := { name := "ytkgbifbbpmdpgaa", sum := "2f5d766ff9e95c9f3c6a00958d4304fbfef1e842bcba9e647e9e050ce2eb735a", checked := Try.checked }
namespace Rows
def none {H : Type} : Left H := { results := [], args := [] }

/-- 'yuccalaw10.PrecTells': WHATEVER THE INPUT: true; the input reads as it did. -/
def precTellsSpec : ChangeSpec := { name := "precTells", fn := fun _ => fun
  | [d1, d2, d3, d4] => { results := [.lit (.bool true)], args := [d1, d2, d3, d4] }
  | _ => none }
def precTellsRow : OpenClaim := { program := "ytkgbifbbpmdpgaa", sum := "2f5d766ff9e95c9f3c6a00958d4304fbfef1e842bcba9e647e9e050ce2eb735a", func := "yucca/yuccalaw10.PrecTells", spec := "precTells", apart := false }
def PrecTellsSaid : Prop := precTellsRow.holds Try.pinned (OpenSpec.ofChange precTellsSpec)

/-- ITS FALSE NEIGHBOUR: 'it returns false'. Refute it at one input. -/
def precTellsWrong : ChangeSpec := { name := "precTells", fn := fun _ => fun
  | [d1, d2, d3, d4] => { results := [.lit (.bool false)], args := [d1, d2, d3, d4] }
  | _ => none }
def PrecTellsWrongFalsely : Prop := precTellsRow.holds Try.pinned (OpenSpec.ofChange precTellsWrong)

/-- 'yuccalaw10.PrecTable': WHATEVER THE INPUT: true; the input reads as it did. -/
def precTableSpec : ChangeSpec := { name := "precTable", fn := fun _ => fun
  | [d] => { results := [.lit (.bool true)], args := [d] }
  | _ => none }
def precTableRow : OpenClaim := { program := "ytkgbifbbpmdpgaa", sum := "2f5d766ff9e95c9f3c6a00958d4304fbfef1e842bcba9e647e9e050ce2eb735a", func := "yucca/yuccalaw10.PrecTable", spec := "precTable", apart := false }
def PrecTableSaid : Prop := precTableRow.holds Try.pinned (OpenSpec.ofChange precTableSpec)

/-- ITS FALSE NEIGHBOUR: 'it returns false'. Refute it at one input. -/
def precTableWrong : ChangeSpec := { name := "precTable", fn := fun _ => fun
  | [d] => { results := [.lit (.bool false)], args := [d] }
  | _ => none }
def PrecTableWrongFalsely : Prop := precTableRow.holds Try.pinned (OpenSpec.ofChange precTableWrong)

/-- 'yuccalaw10.PrecAs': WHATEVER THE INPUT: true; the input reads as it did. -/
def precAsSpec : ChangeSpec := { name := "precAs", fn := fun _ => fun
  | [d1, d2, d3, d4] => { results := [.lit (.bool true)], args := [d1, d2, d3, d4] }
  | _ => none }
def precAsRow : OpenClaim := { program := "ytkgbifbbpmdpgaa", sum := "2f5d766ff9e95c9f3c6a00958d4304fbfef1e842bcba9e647e9e050ce2eb735a", func := "yucca/yuccalaw10.PrecAs", spec := "precAs", apart := false }
def PrecAsSaid : Prop := precAsRow.holds Try.pinned (OpenSpec.ofChange precAsSpec)

/-- ITS FALSE NEIGHBOUR: 'it returns false'. Refute it at one input. -/
def precAsWrong : ChangeSpec := { name := "precAs", fn := fun _ => fun
  | [d1, d2, d3, d4] => { results := [.lit (.bool false)], args := [d1, d2, d3, d4] }
  | _ => none }
def PrecAsWrongFalsely : Prop := precAsRow.holds Try.pinned (OpenSpec.ofChange precAsWrong)

/-- 'yuccalaw10.PrecRises': WHATEVER THE INPUT: true; the input reads as it did. -/
def precRisesSpec : ChangeSpec := { name := "precRises", fn := fun _ => fun
  | [d1, d2, d3, d4, d5] => { results := [.lit (.bool true)], args := [d1, d2, d3, d4, d5] }
  | _ => none }
def precRisesRow : OpenClaim := { program := "ytkgbifbbpmdpgaa", sum := "2f5d766ff9e95c9f3c6a00958d4304fbfef1e842bcba9e647e9e050ce2eb735a", func := "yucca/yuccalaw10.PrecRises", spec := "precRises", apart := false }
def PrecRisesSaid : Prop := precRisesRow.holds Try.pinned (OpenSpec.ofChange precRisesSpec)

/-- ITS FALSE NEIGHBOUR: 'it returns false'. Refute it at one input. -/
def precRisesWrong : ChangeSpec := { name := "precRises", fn := fun _ => fun
  | [d1, d2, d3, d4, d5] => { results := [.lit (.bool false)], args := [d1, d2, d3, d4, d5] }
  | _ => none }
def PrecRisesWrongFalsely : Prop := precRisesRow.holds Try.pinned (OpenSpec.ofChange precRisesWrong)

/-- 'yuccalaw24.NumsTells': WHATEVER THE INPUT: true; the input reads as it did. -/
def numsTellsSpec : ChangeSpec := { name := "numsTells", fn := fun _ => fun
  | [d1, d2, d3, d4] => { results := [.lit (.bool true)], args := [d1, d2, d3, d4] }
  | _ => none }
def numsTellsRow : OpenClaim := { program := "ytkgbifbbpmdpgaa", sum := "2f5d766ff9e95c9f3c6a00958d4304fbfef1e842bcba9e647e9e050ce2eb735a", func := "yucca/yuccalaw24.NumsTells", spec := "numsTells", unfollowed := true, recurses := true, apart := false }
def NumsTellsSaid : Prop := numsTellsRow.holds Try.pinned (OpenSpec.ofChange numsTellsSpec)

/-- ITS FALSE NEIGHBOUR: 'it returns false'. Refute it at one input. -/
def numsTellsWrong : ChangeSpec := { name := "numsTells", fn := fun _ => fun
  | [d1, d2, d3, d4] => { results := [.lit (.bool false)], args := [d1, d2, d3, d4] }
  | _ => none }
def NumsTellsWrongFalsely : Prop := numsTellsRow.holds Try.pinned (OpenSpec.ofChange numsTellsWrong)

/-- 'yuccalaw24.NumsBack': WHATEVER THE INPUT: true; the input reads as it did. -/
def numsBackSpec : ChangeSpec := { name := "numsBack", fn := fun _ => fun
  | [d] => { results := [.lit (.bool true)], args := [d] }
  | _ => none }
def numsBackRow : OpenClaim := { program := "ytkgbifbbpmdpgaa", sum := "2f5d766ff9e95c9f3c6a00958d4304fbfef1e842bcba9e647e9e050ce2eb735a", func := "yucca/yuccalaw24.NumsBack", spec := "numsBack", unfollowed := true, recurses := true, apart := false }
def NumsBackSaid : Prop := numsBackRow.holds Try.pinned (OpenSpec.ofChange numsBackSpec)

/-- ITS FALSE NEIGHBOUR: 'it returns false'. Refute it at one input. -/
def numsBackWrong : ChangeSpec := { name := "numsBack", fn := fun _ => fun
  | [d] => { results := [.lit (.bool false)], args := [d] }
  | _ => none }
def NumsBackWrongFalsely : Prop := numsBackRow.holds Try.pinned (OpenSpec.ofChange numsBackWrong)

/-- 'yuccalaw24.NumsNone': WHATEVER THE INPUT: true; the input reads as it did. -/
def numsNoneSpec : ChangeSpec := { name := "numsNone", fn := fun _ => fun
  | [d1, d2] => { results := [.lit (.bool true)], args := [d1, d2] }
  | _ => none }
def numsNoneRow : OpenClaim := { program := "ytkgbifbbpmdpgaa", sum := "2f5d766ff9e95c9f3c6a00958d4304fbfef1e842bcba9e647e9e050ce2eb735a", func := "yucca/yuccalaw24.NumsNone", spec := "numsNone", unfollowed := true, recurses := true, apart := false }
def NumsNoneSaid : Prop := numsNoneRow.holds Try.pinned (OpenSpec.ofChange numsNoneSpec)

/-- ITS FALSE NEIGHBOUR: 'it returns false'. Refute it at one input. -/
def numsNoneWrong : ChangeSpec := { name := "numsNone", fn := fun _ => fun
  | [d1, d2] => { results := [.lit (.bool false)], args := [d1, d2] }
  | _ => none }
def NumsNoneWrongFalsely : Prop := numsNoneRow.holds Try.pinned (OpenSpec.ofChange numsNoneWrong)

/- THE SECOND FORM. 'bulk': how many values and letters a reading holds, each counted each time it is reached (what is shared counts as often as it is met; a slice's spare places count too). A statement '..UptoSaid' is the law's where the arguments, and the package variables that the reading takes, are together of bulk at most 1048576: NARROWER than '..Said'. Prove '..Said' where nothing that the law and all that it calls make is longer than what came in: it says more and counts as full. Else prove '..UptoSaid'. A law counts once. -/
mutual
def uptoBulk {H : Type} : DataW H → Nat
  | .lit (.string bytes) => bytes.length + 1
  | .lit _ => 1
  | .nil => 1
  | .ptr d => uptoBulk d + 1
  | .slice elems spare => uptoBulkAll elems + uptoBulkAll spare + 1
  | .agg parts => uptoBulkAll parts + 1
  | .iface _ d => uptoBulk d + 1
  | .map entries => uptoBulkEntries entries + 1
  | .held _ => 1
def uptoBulkAll {H : Type} : List (DataW H) → Nat
  | [] => 0
  | d :: r => uptoBulk d + uptoBulkAll r
def uptoBulkEntries {H : Type} : List (Lit × DataW H) → Nat
  | [] => 0
  | x :: r => uptoBulkEntry x + uptoBulkEntries r
def uptoBulkEntry {H : Type} : Lit × DataW H → Nat
  | (.string bytes, d) => bytes.length + uptoBulk d + 1
  | (_, d) => uptoBulk d + 1
 end
def uptoSmall : (H : Type) → List (DataW H) → Bool := fun _ ds => decide (uptoBulkAll ds ≤ 1048576)
def OpenSpec.upto (s : _root_.Go.ChangeSpec) : _root_.Go.OpenSpec := { _root_.Go.OpenSpec.ofChange s with cond := some uptoSmall }

/-- 'yuccalaw10.PrecTells', WHERE WHAT IT READS IS OF BULK AT MOST 1048576: true; the input reads as it did. -/
def precTellsUptoRow : OpenClaim := { program := "ytkgbifbbpmdpgaa", sum := "2f5d766ff9e95c9f3c6a00958d4304fbfef1e842bcba9e647e9e050ce2eb735a", func := "yucca/yuccalaw10.PrecTells", spec := "precTells", apart := false, narrowed := true }
def PrecTellsUptoSaid : Prop := precTellsUptoRow.holds Try.pinned (OpenSpec.upto precTellsSpec)

/-- 'yuccalaw10.PrecTable', WHERE WHAT IT READS IS OF BULK AT MOST 1048576: true; the input reads as it did. -/
def precTableUptoRow : OpenClaim := { program := "ytkgbifbbpmdpgaa", sum := "2f5d766ff9e95c9f3c6a00958d4304fbfef1e842bcba9e647e9e050ce2eb735a", func := "yucca/yuccalaw10.PrecTable", spec := "precTable", apart := false, narrowed := true }
def PrecTableUptoSaid : Prop := precTableUptoRow.holds Try.pinned (OpenSpec.upto precTableSpec)

/-- 'yuccalaw10.PrecAs', WHERE WHAT IT READS IS OF BULK AT MOST 1048576: true; the input reads as it did. -/
def precAsUptoRow : OpenClaim := { program := "ytkgbifbbpmdpgaa", sum := "2f5d766ff9e95c9f3c6a00958d4304fbfef1e842bcba9e647e9e050ce2eb735a", func := "yucca/yuccalaw10.PrecAs", spec := "precAs", apart := false, narrowed := true }
def PrecAsUptoSaid : Prop := precAsUptoRow.holds Try.pinned (OpenSpec.upto precAsSpec)

/-- 'yuccalaw10.PrecRises', WHERE WHAT IT READS IS OF BULK AT MOST 1048576: true; the input reads as it did. -/
def precRisesUptoRow : OpenClaim := { program := "ytkgbifbbpmdpgaa", sum := "2f5d766ff9e95c9f3c6a00958d4304fbfef1e842bcba9e647e9e050ce2eb735a", func := "yucca/yuccalaw10.PrecRises", spec := "precRises", apart := false, narrowed := true }
def PrecRisesUptoSaid : Prop := precRisesUptoRow.holds Try.pinned (OpenSpec.upto precRisesSpec)

/-- 'yuccalaw24.NumsTells', WHERE WHAT IT READS IS OF BULK AT MOST 1048576: true; the input reads as it did. -/
def numsTellsUptoRow : OpenClaim := { program := "ytkgbifbbpmdpgaa", sum := "2f5d766ff9e95c9f3c6a00958d4304fbfef1e842bcba9e647e9e050ce2eb735a", func := "yucca/yuccalaw24.NumsTells", spec := "numsTells", unfollowed := true, recurses := true, apart := false, narrowed := true }
def NumsTellsUptoSaid : Prop := numsTellsUptoRow.holds Try.pinned (OpenSpec.upto numsTellsSpec)

/-- 'yuccalaw24.NumsBack', WHERE WHAT IT READS IS OF BULK AT MOST 1048576: true; the input reads as it did. -/
def numsBackUptoRow : OpenClaim := { program := "ytkgbifbbpmdpgaa", sum := "2f5d766ff9e95c9f3c6a00958d4304fbfef1e842bcba9e647e9e050ce2eb735a", func := "yucca/yuccalaw24.NumsBack", spec := "numsBack", unfollowed := true, recurses := true, apart := false, narrowed := true }
def NumsBackUptoSaid : Prop := numsBackUptoRow.holds Try.pinned (OpenSpec.upto numsBackSpec)

/-- 'yuccalaw24.NumsNone', WHERE WHAT IT READS IS OF BULK AT MOST 1048576: true; the input reads as it did. -/
def numsNoneUptoRow : OpenClaim := { program := "ytkgbifbbpmdpgaa", sum := "2f5d766ff9e95c9f3c6a00958d4304fbfef1e842bcba9e647e9e050ce2eb735a", func := "yucca/yuccalaw24.NumsNone", spec := "numsNone", unfollowed := true, recurses := true, apart := false, narrowed := true }
def NumsNoneUptoSaid : Prop := numsNoneUptoRow.holds Try.pinned (OpenSpec.upto numsNoneSpec)

end Rows
end Go.Proofs.Ytkgbifbbpmdpgaa
