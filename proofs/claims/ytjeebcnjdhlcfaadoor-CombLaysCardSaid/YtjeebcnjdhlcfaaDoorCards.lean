/-
  DERIVED. GIVEN WITH THE SEED: THE CARDS: each row of YtjeebcnjdhlcfaaDoorRows.lean that lists a variable, with what it lists TIED to the program's text (the seventh form; the later family's looks); each row that meets fmt, with fmt's text TOLD by the authors' own Lean function (tested against real Go, not proved from fmt's source: count such statements apart). THE CARD IS WHAT COUNTS. Prove the row's statement (the work); the ties are given (YtjeebcnjdhlcfaaDoorTie.lean); close each card by the builder's one call (the guide's Derived/Test/ToyasCard.lean, 'card_holds'). Laid BY PROGRAM, IN A SANDBOX (cutbox-door.mjs). By AI agents, Wed Nov 11 2026. No macro, syntax, notation, axiom, sorry.
-/
import Derived.Test.YtjeebcnjdhlcfaaDoorRows
import GoSem.ClaimSeven
namespace Go.Proofs.YtjeebcnjdhlcfaaDoor
namespace Rows

/-- THE TIED CARD OF 'yuccalaw23.CombLays'. -/
def combLaysCard : Claim7 := { stood := { row := combLaysRow, standIns := [], harness := (true, "36e4868fd737f15319ea9d28c1b2b1f8bc8b5b7fc342be7295d845c747320283"), looks := false }, kinds := [], alts := [], laidByText := true, laidKinds := [.data], laidTests := true, laidLooks := .later }
def CombLaysCardSaid : Prop := Claim7.holds Tryd.pinned (.plain (OpenSpec.ofChange combLaysSpec)) combLaysCard

/-- THE TIED CARD OF 'yuccalaw23.CombGets'. -/
def combGetsCard : Claim7 := { stood := { row := combGetsRow, standIns := [], harness := (true, "36e4868fd737f15319ea9d28c1b2b1f8bc8b5b7fc342be7295d845c747320283"), looks := false }, kinds := [], alts := [], laidByText := true, laidKinds := [.data], laidTests := true, laidLooks := .later }
def CombGetsCardSaid : Prop := Claim7.holds Tryd.pinned (.plain (OpenSpec.ofChange combGetsSpec)) combGetsCard

/-- THE TIED CARD OF 'yuccalaw23.CombFits'. -/
def combFitsCard : Claim7 := { stood := { row := combFitsRow, standIns := [], harness := (true, "36e4868fd737f15319ea9d28c1b2b1f8bc8b5b7fc342be7295d845c747320283"), looks := false }, kinds := [], alts := [], laidByText := true, laidKinds := [.data], laidTests := true, laidLooks := .later }
def CombFitsCardSaid : Prop := Claim7.holds Tryd.pinned (.plain (OpenSpec.ofChange combFitsSpec)) combFitsCard

/-- THE TIED CARD OF 'yuccalaw23.CombLeast'. -/
def combLeastCard : Claim7 := { stood := { row := combLeastRow, standIns := [], harness := (true, "36e4868fd737f15319ea9d28c1b2b1f8bc8b5b7fc342be7295d845c747320283"), looks := false }, kinds := [], alts := [], laidByText := true, laidKinds := [.data], laidTests := true, laidLooks := .later }
def CombLeastCardSaid : Prop := Claim7.holds Tryd.pinned (.plain (OpenSpec.ofChange combLeastSpec)) combLeastCard

/-- THE TIED CARD OF 'yuccalaw23.CombTurned'. -/
def combTurnedCard : Claim7 := { stood := { row := combTurnedRow, standIns := [], harness := (true, "36e4868fd737f15319ea9d28c1b2b1f8bc8b5b7fc342be7295d845c747320283"), looks := false }, kinds := [], alts := [], laidByText := true, laidKinds := [.data], laidTests := true, laidLooks := .later }
def CombTurnedCardSaid : Prop := Claim7.holds Tryd.pinned (.plain (OpenSpec.ofChange combTurnedSpec)) combTurnedCard

/-- THE TIED CARD OF 'yuccalaw23.CombFull'. -/
def combFullCard : Claim7 := { stood := { row := combFullRow, standIns := [], harness := (true, "36e4868fd737f15319ea9d28c1b2b1f8bc8b5b7fc342be7295d845c747320283"), looks := false }, kinds := [], alts := [], laidByText := true, laidKinds := [.data], laidTests := true, laidLooks := .later }
def CombFullCardSaid : Prop := Claim7.holds Tryd.pinned (.plain (OpenSpec.ofChange combFullSpec)) combFullCard

/-- THE SECOND FORM's CARD OF 'yuccalaw23.CombLays'. -/
def combLaysUptoCard : Claim7 := { stood := { row := combLaysUptoRow, standIns := [], harness := (true, "36e4868fd737f15319ea9d28c1b2b1f8bc8b5b7fc342be7295d845c747320283"), looks := false }, kinds := [], alts := [], laidByText := true, laidKinds := [.data], laidTests := true, laidLooks := .later }
def CombLaysUptoCardSaid : Prop := Claim7.holds Tryd.pinned (.plain (OpenSpec.upto combLaysSpec)) combLaysUptoCard

/-- THE SECOND FORM's CARD OF 'yuccalaw23.CombGets'. -/
def combGetsUptoCard : Claim7 := { stood := { row := combGetsUptoRow, standIns := [], harness := (true, "36e4868fd737f15319ea9d28c1b2b1f8bc8b5b7fc342be7295d845c747320283"), looks := false }, kinds := [], alts := [], laidByText := true, laidKinds := [.data], laidTests := true, laidLooks := .later }
def CombGetsUptoCardSaid : Prop := Claim7.holds Tryd.pinned (.plain (OpenSpec.upto combGetsSpec)) combGetsUptoCard

/-- THE SECOND FORM's CARD OF 'yuccalaw23.CombFits'. -/
def combFitsUptoCard : Claim7 := { stood := { row := combFitsUptoRow, standIns := [], harness := (true, "36e4868fd737f15319ea9d28c1b2b1f8bc8b5b7fc342be7295d845c747320283"), looks := false }, kinds := [], alts := [], laidByText := true, laidKinds := [.data], laidTests := true, laidLooks := .later }
def CombFitsUptoCardSaid : Prop := Claim7.holds Tryd.pinned (.plain (OpenSpec.upto combFitsSpec)) combFitsUptoCard

/-- THE SECOND FORM's CARD OF 'yuccalaw23.CombLeast'. -/
def combLeastUptoCard : Claim7 := { stood := { row := combLeastUptoRow, standIns := [], harness := (true, "36e4868fd737f15319ea9d28c1b2b1f8bc8b5b7fc342be7295d845c747320283"), looks := false }, kinds := [], alts := [], laidByText := true, laidKinds := [.data], laidTests := true, laidLooks := .later }
def CombLeastUptoCardSaid : Prop := Claim7.holds Tryd.pinned (.plain (OpenSpec.upto combLeastSpec)) combLeastUptoCard

/-- THE SECOND FORM's CARD OF 'yuccalaw23.CombTurned'. -/
def combTurnedUptoCard : Claim7 := { stood := { row := combTurnedUptoRow, standIns := [], harness := (true, "36e4868fd737f15319ea9d28c1b2b1f8bc8b5b7fc342be7295d845c747320283"), looks := false }, kinds := [], alts := [], laidByText := true, laidKinds := [.data], laidTests := true, laidLooks := .later }
def CombTurnedUptoCardSaid : Prop := Claim7.holds Tryd.pinned (.plain (OpenSpec.upto combTurnedSpec)) combTurnedUptoCard

/-- THE SECOND FORM's CARD OF 'yuccalaw23.CombFull'. -/
def combFullUptoCard : Claim7 := { stood := { row := combFullUptoRow, standIns := [], harness := (true, "36e4868fd737f15319ea9d28c1b2b1f8bc8b5b7fc342be7295d845c747320283"), looks := false }, kinds := [], alts := [], laidByText := true, laidKinds := [.data], laidTests := true, laidLooks := .later }
def CombFullUptoCardSaid : Prop := Claim7.holds Tryd.pinned (.plain (OpenSpec.upto combFullSpec)) combFullUptoCard
end Rows
end Go.Proofs.YtjeebcnjdhlcfaaDoor
