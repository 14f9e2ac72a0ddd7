/-
  DERIVED. GIVEN WITH THE SEED: THE CARDS: each row of YtbampnmobbgbaaaDoorRows.lean that lists a variable, with what it lists TIED to the program's text (the seventh form; the later family's looks); each row that meets fmt, with fmt's text TOLD by the authors' own Lean function (tested against real Go, not proved from fmt's source: count such statements apart). THE CARD IS WHAT COUNTS. Prove the row's statement (the work); the ties are given (YtbampnmobbgbaaaDoorTie.lean); close each card by the builder's one call (the guide's Derived/Test/ToyasCard.lean, 'card_holds'). Laid BY PROGRAM, IN A SANDBOX (cutbox-door.mjs). By AI agents, Wed Nov 11 2026. No macro, syntax, notation, axiom, sorry.
-/
import Derived.Test.YtbampnmobbgbaaaDoorRows
import GoSem.ClaimSeven
namespace Go.Proofs.YtbampnmobbgbaaaDoor
namespace Rows

/-- THE TIED CARD OF 'yuccalaw9.GramInner'. -/
def gramInnerCard : Claim7 := { stood := { row := gramInnerRow, standIns := [], harness := (true, "6947fe7f26739d9bc151eb5d879f62d6659e6f2365fc5dbfbad9ee1179a50312"), looks := false }, kinds := [], alts := [], laidByText := true, laidKinds := [.data, .data, .data], laidTests := true, laidLooks := .later }
def GramInnerCardSaid : Prop := Claim7.holds Tryd.pinned (.plain (OpenSpec.ofChange gramInnerSpec)) gramInnerCard

/-- THE TIED CARD OF 'yuccalaw27.SubstRange'. -/
def substRangeCard : Claim7 := { stood := { row := substRangeRow, standIns := [], harness := (true, "6947fe7f26739d9bc151eb5d879f62d6659e6f2365fc5dbfbad9ee1179a50312"), looks := false }, kinds := [], alts := [], laidByText := true, laidKinds := [.data, .data, .data], laidTests := true, laidLooks := .later }
def SubstRangeCardSaid : Prop := Claim7.holds Tryd.pinned (.plain (OpenSpec.ofChange substRangeSpec)) substRangeCard

/-- THE SECOND FORM's CARD OF 'yuccalaw9.GramInner'. -/
def gramInnerUptoCard : Claim7 := { stood := { row := gramInnerUptoRow, standIns := [], harness := (true, "6947fe7f26739d9bc151eb5d879f62d6659e6f2365fc5dbfbad9ee1179a50312"), looks := false }, kinds := [], alts := [], laidByText := true, laidKinds := [.data, .data, .data], laidTests := true, laidLooks := .later }
def GramInnerUptoCardSaid : Prop := Claim7.holds Tryd.pinned (.plain (OpenSpec.upto gramInnerSpec)) gramInnerUptoCard

/-- THE SECOND FORM's CARD OF 'yuccalaw27.SubstRange'. -/
def substRangeUptoCard : Claim7 := { stood := { row := substRangeUptoRow, standIns := [], harness := (true, "6947fe7f26739d9bc151eb5d879f62d6659e6f2365fc5dbfbad9ee1179a50312"), looks := false }, kinds := [], alts := [], laidByText := true, laidKinds := [.data, .data, .data], laidTests := true, laidLooks := .later }
def SubstRangeUptoCardSaid : Prop := Claim7.holds Tryd.pinned (.plain (OpenSpec.upto substRangeSpec)) substRangeUptoCard
end Rows
end Go.Proofs.YtbampnmobbgbaaaDoor
