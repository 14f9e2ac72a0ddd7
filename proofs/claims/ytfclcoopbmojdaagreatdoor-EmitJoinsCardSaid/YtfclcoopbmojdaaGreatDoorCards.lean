/-
  DERIVED. GIVEN WITH THE SEED: THE CARDS: each row of YtfclcoopbmojdaaGreatDoorRows.lean that lists a variable, with what it lists TIED to the program's text (the seventh form; the later family's looks); each row that meets fmt, with fmt's text TOLD by the authors' own Lean function (tested against real Go, not proved from fmt's source: count such statements apart). THE CARD IS WHAT COUNTS. Prove the row's statement (the work); the ties are given (YtfclcoopbmojdaaGreatDoorTie.lean); close each card by the builder's one call (the guide's Derived/Test/ToyasCard.lean, 'card_holds'). Laid BY PROGRAM, IN A SANDBOX (cutbox-door.mjs). By AI agents, Wed Nov 11 2026. No macro, syntax, notation, axiom, sorry.
-/
import Derived.Test.YtfclcoopbmojdaaGreatDoorRows
import GoSem.ClaimSeven
namespace Go.Proofs.YtfclcoopbmojdaaGreatDoor
namespace Rows

/-- THE TIED CARD OF 'yuccalaw28.EmitLists'. -/
def emitListsCard : Claim7 := { stood := { row := emitListsRow, standIns := [], harness := (true, "8cd8a0eca5a300a9072b83d5ce8a30f853f297d3ff18428e08dc2f5f97f1ed97"), looks := false }, kinds := [], alts := [], laidByText := true, laidKinds := [.data, .data, .data], laidTests := true, laidLooks := .later }
def EmitListsCardSaid : Prop := Claim7.holds Tryz.pinned (.plain (OpenSpec.ofChange emitListsSpec)) emitListsCard

/-- THE TIED CARD OF 'yuccalaw28.EmitJoins'. -/
def emitJoinsCard : Claim7 := { stood := { row := emitJoinsRow, standIns := [], harness := (true, "8cd8a0eca5a300a9072b83d5ce8a30f853f297d3ff18428e08dc2f5f97f1ed97"), looks := false }, kinds := [], alts := [], laidByText := true, laidKinds := [.data, .data, .data], laidTests := true, laidLooks := .later }
def EmitJoinsCardSaid : Prop := Claim7.holds Tryz.pinned (.plain (OpenSpec.ofChange emitJoinsSpec)) emitJoinsCard

/-- THE SECOND FORM's CARD OF 'yuccalaw28.EmitLists'. -/
def emitListsUptoCard : Claim7 := { stood := { row := emitListsUptoRow, standIns := [], harness := (true, "8cd8a0eca5a300a9072b83d5ce8a30f853f297d3ff18428e08dc2f5f97f1ed97"), looks := false }, kinds := [], alts := [], laidByText := true, laidKinds := [.data, .data, .data], laidTests := true, laidLooks := .later }
def EmitListsUptoCardSaid : Prop := Claim7.holds Tryz.pinned (.plain (OpenSpec.upto emitListsSpec)) emitListsUptoCard

/-- THE SECOND FORM's CARD OF 'yuccalaw28.EmitJoins'. -/
def emitJoinsUptoCard : Claim7 := { stood := { row := emitJoinsUptoRow, standIns := [], harness := (true, "8cd8a0eca5a300a9072b83d5ce8a30f853f297d3ff18428e08dc2f5f97f1ed97"), looks := false }, kinds := [], alts := [], laidByText := true, laidKinds := [.data, .data, .data], laidTests := true, laidLooks := .later }
def EmitJoinsUptoCardSaid : Prop := Claim7.holds Tryz.pinned (.plain (OpenSpec.upto emitJoinsSpec)) emitJoinsUptoCard
end Rows
end Go.Proofs.YtfclcoopbmojdaaGreatDoor
