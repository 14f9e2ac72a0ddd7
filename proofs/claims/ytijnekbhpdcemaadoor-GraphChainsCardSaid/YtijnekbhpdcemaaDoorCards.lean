/-
  DERIVED. GIVEN WITH THE SEED: THE CARDS: each row of YtijnekbhpdcemaaDoorRows.lean that lists a variable, with what it lists TIED to the program's text (the seventh form; the later family's looks); each row that meets fmt, with fmt's text TOLD by the authors' own Lean function (tested against real Go, not proved from fmt's source: count such statements apart). THE CARD IS WHAT COUNTS. Prove the row's statement (the work); the ties are given (YtijnekbhpdcemaaDoorTie.lean); close each card by the builder's one call (the guide's Derived/Test/ToyasCard.lean, 'card_holds'). Laid BY PROGRAM, IN A SANDBOX (cutbox-door.mjs). By AI agents, Wed Nov 11 2026. No macro, syntax, notation, axiom, sorry.
-/
import Derived.Test.YtijnekbhpdcemaaDoorRows
import GoSem.ClaimSeven
namespace Go.Proofs.YtijnekbhpdcemaaDoor
namespace Rows

/-- THE TIED CARD OF 'yuccalaw1.BitsSets'. -/
def bitsSetsCard : Claim7 := { stood := { row := bitsSetsRow, standIns := [], harness := (true, "ec7cbc69043db730dbad9acf3fa9e251a9412903f4fcf065d7c364ebc6533863"), looks := false }, kinds := [], alts := [], laidByText := true, laidKinds := [.data], laidTests := true, laidLooks := .later }
def BitsSetsCardSaid : Prop := Claim7.holds Tryd.pinned (.plain (OpenSpec.ofChange bitsSetsSpec)) bitsSetsCard

/-- THE TIED CARD OF 'yuccalaw1.BitsOps'. -/
def bitsOpsCard : Claim7 := { stood := { row := bitsOpsRow, standIns := [], harness := (true, "ec7cbc69043db730dbad9acf3fa9e251a9412903f4fcf065d7c364ebc6533863"), looks := false }, kinds := [], alts := [], laidByText := true, laidKinds := [.data], laidTests := true, laidLooks := .later }
def BitsOpsCardSaid : Prop := Claim7.holds Tryd.pinned (.plain (OpenSpec.ofChange bitsOpsSpec)) bitsOpsCard

/-- THE TIED CARD OF 'yuccalaw1.BitsLaws'. -/
def bitsLawsCard : Claim7 := { stood := { row := bitsLawsRow, standIns := [], harness := (true, "ec7cbc69043db730dbad9acf3fa9e251a9412903f4fcf065d7c364ebc6533863"), looks := false }, kinds := [], alts := [], laidByText := true, laidKinds := [.data], laidTests := true, laidLooks := .later }
def BitsLawsCardSaid : Prop := Claim7.holds Tryd.pinned (.plain (OpenSpec.ofChange bitsLawsSpec)) bitsLawsCard

/-- THE TIED CARD OF 'yuccalaw1.BitsPairs'. -/
def bitsPairsCard : Claim7 := { stood := { row := bitsPairsRow, standIns := [], harness := (true, "ec7cbc69043db730dbad9acf3fa9e251a9412903f4fcf065d7c364ebc6533863"), looks := false }, kinds := [], alts := [], laidByText := true, laidKinds := [.data], laidTests := true, laidLooks := .later }
def BitsPairsCardSaid : Prop := Claim7.holds Tryd.pinned (.plain (OpenSpec.ofChange bitsPairsSpec)) bitsPairsCard

/-- THE TIED CARD OF 'yuccalaw1.BitsTurns'. -/
def bitsTurnsCard : Claim7 := { stood := { row := bitsTurnsRow, standIns := [], harness := (true, "ec7cbc69043db730dbad9acf3fa9e251a9412903f4fcf065d7c364ebc6533863"), looks := false }, kinds := [], alts := [], laidByText := true, laidKinds := [.data], laidTests := true, laidLooks := .later }
def BitsTurnsCardSaid : Prop := Claim7.holds Tryd.pinned (.plain (OpenSpec.ofChange bitsTurnsSpec)) bitsTurnsCard

/-- THE TIED CARD OF 'yuccalaw3.GraphClose'. -/
def graphCloseCard : Claim7 := { stood := { row := graphCloseRow, standIns := [], harness := (true, "ec7cbc69043db730dbad9acf3fa9e251a9412903f4fcf065d7c364ebc6533863"), looks := false }, kinds := [], alts := [], laidByText := true, laidKinds := [.data], laidTests := true, laidLooks := .later }
def GraphCloseCardSaid : Prop := Claim7.holds Tryd.pinned (.plain (OpenSpec.ofChange graphCloseSpec)) graphCloseCard

/-- THE TIED CARD OF 'yuccalaw3.GraphComps'. -/
def graphCompsCard : Claim7 := { stood := { row := graphCompsRow, standIns := [], harness := (true, "ec7cbc69043db730dbad9acf3fa9e251a9412903f4fcf065d7c364ebc6533863"), looks := false }, kinds := [], alts := [], laidByText := true, laidKinds := [.data], laidTests := true, laidLooks := .later }
def GraphCompsCardSaid : Prop := Claim7.holds Tryd.pinned (.plain (OpenSpec.ofChange graphCompsSpec)) graphCompsCard

/-- THE TIED CARD OF 'yuccalaw3.GraphChains'. -/
def graphChainsCard : Claim7 := { stood := { row := graphChainsRow, standIns := [], harness := (true, "ec7cbc69043db730dbad9acf3fa9e251a9412903f4fcf065d7c364ebc6533863"), looks := false }, kinds := [], alts := [], laidByText := true, laidKinds := [.data], laidTests := true, laidLooks := .later }
def GraphChainsCardSaid : Prop := Claim7.holds Tryd.pinned (.plain (OpenSpec.ofChange graphChainsSpec)) graphChainsCard

/-- THE TIED CARD OF 'yuccalaw3.GraphTwice'. -/
def graphTwiceCard : Claim7 := { stood := { row := graphTwiceRow, standIns := [], harness := (true, "ec7cbc69043db730dbad9acf3fa9e251a9412903f4fcf065d7c364ebc6533863"), looks := false }, kinds := [], alts := [], laidByText := true, laidKinds := [.data], laidTests := true, laidLooks := .later }
def GraphTwiceCardSaid : Prop := Claim7.holds Tryd.pinned (.plain (OpenSpec.ofChange graphTwiceSpec)) graphTwiceCard

/-- THE TIED CARD OF 'yuccalaw3.GraphMany'. -/
def graphManyCard : Claim7 := { stood := { row := graphManyRow, standIns := [], harness := (true, "ec7cbc69043db730dbad9acf3fa9e251a9412903f4fcf065d7c364ebc6533863"), looks := false }, kinds := [], alts := [], laidByText := true, laidKinds := [.data], laidTests := true, laidLooks := .later }
def GraphManyCardSaid : Prop := Claim7.holds Tryd.pinned (.plain (OpenSpec.ofChange graphManySpec)) graphManyCard

/-- THE SECOND FORM's CARD OF 'yuccalaw1.BitsSets'. -/
def bitsSetsUptoCard : Claim7 := { stood := { row := bitsSetsUptoRow, standIns := [], harness := (true, "ec7cbc69043db730dbad9acf3fa9e251a9412903f4fcf065d7c364ebc6533863"), looks := false }, kinds := [], alts := [], laidByText := true, laidKinds := [.data], laidTests := true, laidLooks := .later }
def BitsSetsUptoCardSaid : Prop := Claim7.holds Tryd.pinned (.plain (OpenSpec.upto bitsSetsSpec)) bitsSetsUptoCard

/-- THE SECOND FORM's CARD OF 'yuccalaw1.BitsOps'. -/
def bitsOpsUptoCard : Claim7 := { stood := { row := bitsOpsUptoRow, standIns := [], harness := (true, "ec7cbc69043db730dbad9acf3fa9e251a9412903f4fcf065d7c364ebc6533863"), looks := false }, kinds := [], alts := [], laidByText := true, laidKinds := [.data], laidTests := true, laidLooks := .later }
def BitsOpsUptoCardSaid : Prop := Claim7.holds Tryd.pinned (.plain (OpenSpec.upto bitsOpsSpec)) bitsOpsUptoCard

/-- THE SECOND FORM's CARD OF 'yuccalaw1.BitsLaws'. -/
def bitsLawsUptoCard : Claim7 := { stood := { row := bitsLawsUptoRow, standIns := [], harness := (true, "ec7cbc69043db730dbad9acf3fa9e251a9412903f4fcf065d7c364ebc6533863"), looks := false }, kinds := [], alts := [], laidByText := true, laidKinds := [.data], laidTests := true, laidLooks := .later }
def BitsLawsUptoCardSaid : Prop := Claim7.holds Tryd.pinned (.plain (OpenSpec.upto bitsLawsSpec)) bitsLawsUptoCard

/-- THE SECOND FORM's CARD OF 'yuccalaw1.BitsPairs'. -/
def bitsPairsUptoCard : Claim7 := { stood := { row := bitsPairsUptoRow, standIns := [], harness := (true, "ec7cbc69043db730dbad9acf3fa9e251a9412903f4fcf065d7c364ebc6533863"), looks := false }, kinds := [], alts := [], laidByText := true, laidKinds := [.data], laidTests := true, laidLooks := .later }
def BitsPairsUptoCardSaid : Prop := Claim7.holds Tryd.pinned (.plain (OpenSpec.upto bitsPairsSpec)) bitsPairsUptoCard

/-- THE SECOND FORM's CARD OF 'yuccalaw1.BitsTurns'. -/
def bitsTurnsUptoCard : Claim7 := { stood := { row := bitsTurnsUptoRow, standIns := [], harness := (true, "ec7cbc69043db730dbad9acf3fa9e251a9412903f4fcf065d7c364ebc6533863"), looks := false }, kinds := [], alts := [], laidByText := true, laidKinds := [.data], laidTests := true, laidLooks := .later }
def BitsTurnsUptoCardSaid : Prop := Claim7.holds Tryd.pinned (.plain (OpenSpec.upto bitsTurnsSpec)) bitsTurnsUptoCard

/-- THE SECOND FORM's CARD OF 'yuccalaw3.GraphClose'. -/
def graphCloseUptoCard : Claim7 := { stood := { row := graphCloseUptoRow, standIns := [], harness := (true, "ec7cbc69043db730dbad9acf3fa9e251a9412903f4fcf065d7c364ebc6533863"), looks := false }, kinds := [], alts := [], laidByText := true, laidKinds := [.data], laidTests := true, laidLooks := .later }
def GraphCloseUptoCardSaid : Prop := Claim7.holds Tryd.pinned (.plain (OpenSpec.upto graphCloseSpec)) graphCloseUptoCard

/-- THE SECOND FORM's CARD OF 'yuccalaw3.GraphComps'. -/
def graphCompsUptoCard : Claim7 := { stood := { row := graphCompsUptoRow, standIns := [], harness := (true, "ec7cbc69043db730dbad9acf3fa9e251a9412903f4fcf065d7c364ebc6533863"), looks := false }, kinds := [], alts := [], laidByText := true, laidKinds := [.data], laidTests := true, laidLooks := .later }
def GraphCompsUptoCardSaid : Prop := Claim7.holds Tryd.pinned (.plain (OpenSpec.upto graphCompsSpec)) graphCompsUptoCard

/-- THE SECOND FORM's CARD OF 'yuccalaw3.GraphChains'. -/
def graphChainsUptoCard : Claim7 := { stood := { row := graphChainsUptoRow, standIns := [], harness := (true, "ec7cbc69043db730dbad9acf3fa9e251a9412903f4fcf065d7c364ebc6533863"), looks := false }, kinds := [], alts := [], laidByText := true, laidKinds := [.data], laidTests := true, laidLooks := .later }
def GraphChainsUptoCardSaid : Prop := Claim7.holds Tryd.pinned (.plain (OpenSpec.upto graphChainsSpec)) graphChainsUptoCard

/-- THE SECOND FORM's CARD OF 'yuccalaw3.GraphTwice'. -/
def graphTwiceUptoCard : Claim7 := { stood := { row := graphTwiceUptoRow, standIns := [], harness := (true, "ec7cbc69043db730dbad9acf3fa9e251a9412903f4fcf065d7c364ebc6533863"), looks := false }, kinds := [], alts := [], laidByText := true, laidKinds := [.data], laidTests := true, laidLooks := .later }
def GraphTwiceUptoCardSaid : Prop := Claim7.holds Tryd.pinned (.plain (OpenSpec.upto graphTwiceSpec)) graphTwiceUptoCard

/-- THE SECOND FORM's CARD OF 'yuccalaw3.GraphMany'. -/
def graphManyUptoCard : Claim7 := { stood := { row := graphManyUptoRow, standIns := [], harness := (true, "ec7cbc69043db730dbad9acf3fa9e251a9412903f4fcf065d7c364ebc6533863"), looks := false }, kinds := [], alts := [], laidByText := true, laidKinds := [.data], laidTests := true, laidLooks := .later }
def GraphManyUptoCardSaid : Prop := Claim7.holds Tryd.pinned (.plain (OpenSpec.upto graphManySpec)) graphManyUptoCard
end Rows
end Go.Proofs.YtijnekbhpdcemaaDoor
