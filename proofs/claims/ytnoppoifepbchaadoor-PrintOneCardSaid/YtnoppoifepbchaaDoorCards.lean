/-
  DERIVED. GIVEN WITH THE SEED: THE CARDS: each row of YtnoppoifepbchaaDoorRows.lean that lists a variable, with what it lists TIED to the program's text (the seventh form; the later family's looks); each row that meets fmt, with fmt's text TOLD by the authors' own Lean function (tested against real Go, not proved from fmt's source: count such statements apart). THE CARD IS WHAT COUNTS. Prove the row's statement (the work); the ties are given (YtnoppoifepbchaaDoorTie.lean); close each card by the builder's one call (the guide's Derived/Test/ToyasCard.lean, 'card_holds'). Laid BY PROGRAM, IN A SANDBOX (cutbox-door.mjs). By AI agents, Wed Nov 11 2026. No macro, syntax, notation, axiom, sorry.
-/
import Derived.Test.YtnoppoifepbchaaDoorRows
import GoSem.ClaimSeven
namespace Go.Proofs.YtnoppoifepbchaaDoor
namespace Rows

/-- THE TIED CARD OF 'yuccalaw7.ReadRules'. -/
def readRulesCard : Claim7 := { stood := { row := readRulesRow, standIns := [], harness := (true, "48a53967de676e1cc74a6be82f3de187254423b12399b94f7e3c9a03fb9267a1"), looks := true }, kinds := [], alts := [], laidByText := true, laidKinds := [.data, .data, .data, .sentinel, .sentinel], laidTests := true, laidLooks := .later }
def ReadRulesCardSaid : Prop := Claim7.holds Tryd.pinned (.plain (OpenSpec.ofChange readRulesSpec)) readRulesCard

/-- THE TIED CARD OF 'yuccalaw7.ReadDecls'. -/
def readDeclsCard : Claim7 := { stood := { row := readDeclsRow, standIns := [], harness := (true, "48a53967de676e1cc74a6be82f3de187254423b12399b94f7e3c9a03fb9267a1"), looks := true }, kinds := [], alts := [], laidByText := true, laidKinds := [.data, .data, .data, .sentinel, .sentinel], laidTests := true, laidLooks := .later }
def ReadDeclsCardSaid : Prop := Claim7.holds Tryd.pinned (.plain (OpenSpec.ofChange readDeclsSpec)) readDeclsCard

/-- THE TIED CARD OF 'yuccalaw8.PrintTells'. -/
def printTellsCard : Claim7 := { stood := { row := printTellsRow, standIns := [], harness := (true, "48a53967de676e1cc74a6be82f3de187254423b12399b94f7e3c9a03fb9267a1"), looks := true }, kinds := [], alts := [], laidByText := true, laidKinds := [.data, .data, .data], laidTests := true, laidLooks := .later }
def PrintTellsCardSaid : Prop := Claim7.holds Tryd.pinned (.plain (OpenSpec.ofChange printTellsSpec)) printTellsCard

/-- THE TIED CARD OF 'yuccalaw8.PrintOne'. -/
def printOneCard : Claim7 := { stood := { row := printOneRow, standIns := [], harness := (true, "48a53967de676e1cc74a6be82f3de187254423b12399b94f7e3c9a03fb9267a1"), looks := true }, kinds := [], alts := [], laidByText := true, laidKinds := [.data, .data, .data], laidTests := true, laidLooks := .later }
def PrintOneCardSaid : Prop := Claim7.holds Tryd.pinned (.plain (OpenSpec.ofChange printOneSpec)) printOneCard

/-- THE TIED CARD OF 'yuccalaw8.PrintSyms'. -/
def printSymsCard : Claim7 := { stood := { row := printSymsRow, standIns := [], harness := (true, "48a53967de676e1cc74a6be82f3de187254423b12399b94f7e3c9a03fb9267a1"), looks := true }, kinds := [], alts := [], laidByText := true, laidKinds := [.data, .data, .data], laidTests := true, laidLooks := .later }
def PrintSymsCardSaid : Prop := Claim7.holds Tryd.pinned (.plain (OpenSpec.ofChange printSymsSpec)) printSymsCard

/-- THE SECOND FORM's CARD OF 'yuccalaw7.ReadRules'. -/
def readRulesUptoCard : Claim7 := { stood := { row := readRulesUptoRow, standIns := [], harness := (true, "48a53967de676e1cc74a6be82f3de187254423b12399b94f7e3c9a03fb9267a1"), looks := true }, kinds := [], alts := [], laidByText := true, laidKinds := [.data, .data, .data, .sentinel, .sentinel], laidTests := true, laidLooks := .later }
def ReadRulesUptoCardSaid : Prop := Claim7.holds Tryd.pinned (.plain (OpenSpec.upto readRulesSpec)) readRulesUptoCard

/-- THE SECOND FORM's CARD OF 'yuccalaw7.ReadDecls'. -/
def readDeclsUptoCard : Claim7 := { stood := { row := readDeclsUptoRow, standIns := [], harness := (true, "48a53967de676e1cc74a6be82f3de187254423b12399b94f7e3c9a03fb9267a1"), looks := true }, kinds := [], alts := [], laidByText := true, laidKinds := [.data, .data, .data, .sentinel, .sentinel], laidTests := true, laidLooks := .later }
def ReadDeclsUptoCardSaid : Prop := Claim7.holds Tryd.pinned (.plain (OpenSpec.upto readDeclsSpec)) readDeclsUptoCard

/-- THE SECOND FORM's CARD OF 'yuccalaw8.PrintTells'. -/
def printTellsUptoCard : Claim7 := { stood := { row := printTellsUptoRow, standIns := [], harness := (true, "48a53967de676e1cc74a6be82f3de187254423b12399b94f7e3c9a03fb9267a1"), looks := true }, kinds := [], alts := [], laidByText := true, laidKinds := [.data, .data, .data], laidTests := true, laidLooks := .later }
def PrintTellsUptoCardSaid : Prop := Claim7.holds Tryd.pinned (.plain (OpenSpec.upto printTellsSpec)) printTellsUptoCard

/-- THE SECOND FORM's CARD OF 'yuccalaw8.PrintOne'. -/
def printOneUptoCard : Claim7 := { stood := { row := printOneUptoRow, standIns := [], harness := (true, "48a53967de676e1cc74a6be82f3de187254423b12399b94f7e3c9a03fb9267a1"), looks := true }, kinds := [], alts := [], laidByText := true, laidKinds := [.data, .data, .data], laidTests := true, laidLooks := .later }
def PrintOneUptoCardSaid : Prop := Claim7.holds Tryd.pinned (.plain (OpenSpec.upto printOneSpec)) printOneUptoCard

/-- THE SECOND FORM's CARD OF 'yuccalaw8.PrintSyms'. -/
def printSymsUptoCard : Claim7 := { stood := { row := printSymsUptoRow, standIns := [], harness := (true, "48a53967de676e1cc74a6be82f3de187254423b12399b94f7e3c9a03fb9267a1"), looks := true }, kinds := [], alts := [], laidByText := true, laidKinds := [.data, .data, .data], laidTests := true, laidLooks := .later }
def PrintSymsUptoCardSaid : Prop := Claim7.holds Tryd.pinned (.plain (OpenSpec.upto printSymsSpec)) printSymsUptoCard
end Rows
end Go.Proofs.YtnoppoifepbchaaDoor
