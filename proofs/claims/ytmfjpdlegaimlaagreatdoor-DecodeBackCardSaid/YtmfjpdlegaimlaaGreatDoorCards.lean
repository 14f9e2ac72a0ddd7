/-
  DERIVED. GIVEN WITH THE SEED: THE CARDS: each row of YtmfjpdlegaimlaaGreatDoorRows.lean that lists a variable, with what it lists TIED to the program's text (the seventh form; the later family's looks); each row that meets fmt, with fmt's text TOLD by the authors' own Lean function (tested against real Go, not proved from fmt's source: count such statements apart). THE CARD IS WHAT COUNTS. Prove the row's statement (the work); the ties are given (YtmfjpdlegaimlaaGreatDoorTie.lean); close each card by the builder's one call (the guide's Derived/Test/ToyasCard.lean, 'card_holds'). Laid BY PROGRAM, IN A SANDBOX (cutbox-door.mjs). By AI agents, Wed Nov 11 2026. No macro, syntax, notation, axiom, sorry.
-/
import Derived.Test.YtmfjpdlegaimlaaGreatDoorRows
import GoSem.ClaimSeven
namespace Go.Proofs.YtmfjpdlegaimlaaGreatDoor
namespace Rows

/-- THE TIED CARD OF 'yuccalaw29.DecodeLines'. -/
def decodeLinesCard : Claim7 := { stood := { row := decodeLinesRow, standIns := [], harness := (true, "2d8c831d82e84a32f2e620f18c4962b672e5e2fe1d260e75f6593214f3ba4fea"), looks := true }, kinds := [], alts := [], laidByText := true, laidKinds := [.data, .data, .data, .data, .sentinel, .sentinel, .pinned], laidTests := true, laidLooks := .later }
def DecodeLinesCardSaid : Prop := Claim7.holds Tryz.pinned (.plain (OpenSpec.ofChange decodeLinesSpec)) decodeLinesCard

/-- THE TIED CARD OF 'yuccalaw29.DecodeBack'. -/
def decodeBackCard : Claim7 := { stood := { row := decodeBackRow, standIns := [], harness := (true, "2d8c831d82e84a32f2e620f18c4962b672e5e2fe1d260e75f6593214f3ba4fea"), looks := true }, kinds := [], alts := [], laidByText := true, laidKinds := [.data, .data, .data, .data, .sentinel, .sentinel, .pinned], laidTests := true, laidLooks := .later }
def DecodeBackCardSaid : Prop := Claim7.holds Tryz.pinned (.plain (OpenSpec.ofChange decodeBackSpec)) decodeBackCard

/-- THE SECOND FORM's CARD OF 'yuccalaw29.DecodeLines'. -/
def decodeLinesUptoCard : Claim7 := { stood := { row := decodeLinesUptoRow, standIns := [], harness := (true, "2d8c831d82e84a32f2e620f18c4962b672e5e2fe1d260e75f6593214f3ba4fea"), looks := true }, kinds := [], alts := [], laidByText := true, laidKinds := [.data, .data, .data, .data, .sentinel, .sentinel, .pinned], laidTests := true, laidLooks := .later }
def DecodeLinesUptoCardSaid : Prop := Claim7.holds Tryz.pinned (.plain (OpenSpec.upto decodeLinesSpec)) decodeLinesUptoCard

/-- THE SECOND FORM's CARD OF 'yuccalaw29.DecodeBack'. -/
def decodeBackUptoCard : Claim7 := { stood := { row := decodeBackUptoRow, standIns := [], harness := (true, "2d8c831d82e84a32f2e620f18c4962b672e5e2fe1d260e75f6593214f3ba4fea"), looks := true }, kinds := [], alts := [], laidByText := true, laidKinds := [.data, .data, .data, .data, .sentinel, .sentinel, .pinned], laidTests := true, laidLooks := .later }
def DecodeBackUptoCardSaid : Prop := Claim7.holds Tryz.pinned (.plain (OpenSpec.upto decodeBackSpec)) decodeBackUptoCard
end Rows
end Go.Proofs.YtmfjpdlegaimlaaGreatDoor
