/-
  DERIVED. GIVEN WITH THE SEED: THE CARDS: each row of YtnepcledbjnolaaDoorRows.lean that lists a variable, with what it lists TIED to the program's text (the seventh form; the later family's looks); each row that meets fmt, with fmt's text TOLD by the authors' own Lean function (tested against real Go, not proved from fmt's source: count such statements apart). THE CARD IS WHAT COUNTS. Prove the row's statement (the work); the ties are given (YtnepcledbjnolaaDoorTie.lean); close each card by the builder's one call (the guide's Derived/Test/ToyasCard.lean, 'card_holds'). Laid BY PROGRAM, IN A SANDBOX (cutbox-door.mjs). By AI agents, Wed Nov 11 2026. No macro, syntax, notation, axiom, sorry.
-/
import Derived.Test.YtnepcledbjnolaaDoorRows
import GoSem.ClaimSeven
namespace Go.Proofs.YtnepcledbjnolaaDoor
namespace Rows

/-- THE TIED CARD OF 'envoylaw02.IntsSums'. -/
def intsSumsCard : Claim7 := { stood := { row := intsSumsRow, standIns := [], harness := (true, "0923c177db7fe0a9ecdfad05c7b5c6ee5acc58ab76946ff137a093aa84bfc0c7"), looks := true }, kinds := [], alts := [], laidByText := true, laidKinds := [.data, .data, .data], laidTests := true, laidLooks := .later }
def IntsSumsCardSaid : Prop := Claim7.holds Tryd.pinned (.plain (OpenSpec.ofChange intsSumsSpec)) intsSumsCard

/-- THE TIED CARD OF 'envoylaw02.IntsQuots'. -/
def intsQuotsCard : Claim7 := { stood := { row := intsQuotsRow, standIns := [], harness := (true, "0923c177db7fe0a9ecdfad05c7b5c6ee5acc58ab76946ff137a093aa84bfc0c7"), looks := true }, kinds := [], alts := [], laidByText := true, laidKinds := [.data, .data, .data], laidTests := true, laidLooks := .later }
def IntsQuotsCardSaid : Prop := Claim7.holds Tryd.pinned (.plain (OpenSpec.ofChange intsQuotsSpec)) intsQuotsCard

/-- THE TIED CARD OF 'envoylaw02.IntsReads'. -/
def intsReadsCard : Claim7 := { stood := { row := intsReadsRow, standIns := [], harness := (true, "0923c177db7fe0a9ecdfad05c7b5c6ee5acc58ab76946ff137a093aa84bfc0c7"), looks := true }, kinds := [], alts := [], laidByText := true, laidKinds := [.data, .data, .data], laidTests := true, laidLooks := .later }
def IntsReadsCardSaid : Prop := Claim7.holds Tryd.pinned (.plain (OpenSpec.ofChange intsReadsSpec)) intsReadsCard

/-- THE TIED CARD OF 'envoylaw02.IntsBack'. -/
def intsBackCard : Claim7 := { stood := { row := intsBackRow, standIns := [], harness := (true, "0923c177db7fe0a9ecdfad05c7b5c6ee5acc58ab76946ff137a093aa84bfc0c7"), looks := true }, kinds := [], alts := [], laidByText := true, laidKinds := [.data, .data, .data], laidTests := true, laidLooks := .later }
def IntsBackCardSaid : Prop := Claim7.holds Tryd.pinned (.plain (OpenSpec.ofChange intsBackSpec)) intsBackCard

/-- THE TIED CARD OF 'envoylaw02.IntsDivides'. -/
def intsDividesCard : Claim7 := { stood := { row := intsDividesRow, standIns := [], harness := (true, "0923c177db7fe0a9ecdfad05c7b5c6ee5acc58ab76946ff137a093aa84bfc0c7"), looks := true }, kinds := [], alts := [], laidByText := true, laidKinds := [.data, .data, .data], laidTests := true, laidLooks := .later }
def IntsDividesCardSaid : Prop := Claim7.holds Tryd.pinned (.plain (OpenSpec.ofChange intsDividesSpec)) intsDividesCard

/-- THE TIED CARD OF 'envoylaw03.NamesKinds'. -/
def namesKindsCard : Claim7 := { stood := { row := namesKindsRow, standIns := [], harness := (true, "0923c177db7fe0a9ecdfad05c7b5c6ee5acc58ab76946ff137a093aa84bfc0c7"), looks := true }, kinds := [], alts := [], laidByText := true, laidKinds := [.data, .data, .data, .sentinel, .sentinel], laidTests := true, laidLooks := .later }
def NamesKindsCardSaid : Prop := Claim7.holds Tryd.pinned (.plain (OpenSpec.ofChange namesKindsSpec)) namesKindsCard

/-- THE TIED CARD OF 'envoylaw03.NamesLetters'. -/
def namesLettersCard : Claim7 := { stood := { row := namesLettersRow, standIns := [], harness := (true, "0923c177db7fe0a9ecdfad05c7b5c6ee5acc58ab76946ff137a093aa84bfc0c7"), looks := true }, kinds := [], alts := [], laidByText := true, laidKinds := [.data, .data, .data, .sentinel, .sentinel], laidTests := true, laidLooks := .later }
def NamesLettersCardSaid : Prop := Claim7.holds Tryd.pinned (.plain (OpenSpec.ofChange namesLettersSpec)) namesLettersCard

/-- THE SECOND FORM's CARD OF 'envoylaw02.IntsSums'. -/
def intsSumsUptoCard : Claim7 := { stood := { row := intsSumsUptoRow, standIns := [], harness := (true, "0923c177db7fe0a9ecdfad05c7b5c6ee5acc58ab76946ff137a093aa84bfc0c7"), looks := true }, kinds := [], alts := [], laidByText := true, laidKinds := [.data, .data, .data], laidTests := true, laidLooks := .later }
def IntsSumsUptoCardSaid : Prop := Claim7.holds Tryd.pinned (.plain (OpenSpec.upto intsSumsSpec)) intsSumsUptoCard

/-- THE SECOND FORM's CARD OF 'envoylaw02.IntsQuots'. -/
def intsQuotsUptoCard : Claim7 := { stood := { row := intsQuotsUptoRow, standIns := [], harness := (true, "0923c177db7fe0a9ecdfad05c7b5c6ee5acc58ab76946ff137a093aa84bfc0c7"), looks := true }, kinds := [], alts := [], laidByText := true, laidKinds := [.data, .data, .data], laidTests := true, laidLooks := .later }
def IntsQuotsUptoCardSaid : Prop := Claim7.holds Tryd.pinned (.plain (OpenSpec.upto intsQuotsSpec)) intsQuotsUptoCard

/-- THE SECOND FORM's CARD OF 'envoylaw02.IntsReads'. -/
def intsReadsUptoCard : Claim7 := { stood := { row := intsReadsUptoRow, standIns := [], harness := (true, "0923c177db7fe0a9ecdfad05c7b5c6ee5acc58ab76946ff137a093aa84bfc0c7"), looks := true }, kinds := [], alts := [], laidByText := true, laidKinds := [.data, .data, .data], laidTests := true, laidLooks := .later }
def IntsReadsUptoCardSaid : Prop := Claim7.holds Tryd.pinned (.plain (OpenSpec.upto intsReadsSpec)) intsReadsUptoCard

/-- THE SECOND FORM's CARD OF 'envoylaw02.IntsBack'. -/
def intsBackUptoCard : Claim7 := { stood := { row := intsBackUptoRow, standIns := [], harness := (true, "0923c177db7fe0a9ecdfad05c7b5c6ee5acc58ab76946ff137a093aa84bfc0c7"), looks := true }, kinds := [], alts := [], laidByText := true, laidKinds := [.data, .data, .data], laidTests := true, laidLooks := .later }
def IntsBackUptoCardSaid : Prop := Claim7.holds Tryd.pinned (.plain (OpenSpec.upto intsBackSpec)) intsBackUptoCard

/-- THE SECOND FORM's CARD OF 'envoylaw02.IntsDivides'. -/
def intsDividesUptoCard : Claim7 := { stood := { row := intsDividesUptoRow, standIns := [], harness := (true, "0923c177db7fe0a9ecdfad05c7b5c6ee5acc58ab76946ff137a093aa84bfc0c7"), looks := true }, kinds := [], alts := [], laidByText := true, laidKinds := [.data, .data, .data], laidTests := true, laidLooks := .later }
def IntsDividesUptoCardSaid : Prop := Claim7.holds Tryd.pinned (.plain (OpenSpec.upto intsDividesSpec)) intsDividesUptoCard

/-- THE SECOND FORM's CARD OF 'envoylaw03.NamesKinds'. -/
def namesKindsUptoCard : Claim7 := { stood := { row := namesKindsUptoRow, standIns := [], harness := (true, "0923c177db7fe0a9ecdfad05c7b5c6ee5acc58ab76946ff137a093aa84bfc0c7"), looks := true }, kinds := [], alts := [], laidByText := true, laidKinds := [.data, .data, .data, .sentinel, .sentinel], laidTests := true, laidLooks := .later }
def NamesKindsUptoCardSaid : Prop := Claim7.holds Tryd.pinned (.plain (OpenSpec.upto namesKindsSpec)) namesKindsUptoCard

/-- THE SECOND FORM's CARD OF 'envoylaw03.NamesLetters'. -/
def namesLettersUptoCard : Claim7 := { stood := { row := namesLettersUptoRow, standIns := [], harness := (true, "0923c177db7fe0a9ecdfad05c7b5c6ee5acc58ab76946ff137a093aa84bfc0c7"), looks := true }, kinds := [], alts := [], laidByText := true, laidKinds := [.data, .data, .data, .sentinel, .sentinel], laidTests := true, laidLooks := .later }
def NamesLettersUptoCardSaid : Prop := Claim7.holds Tryd.pinned (.plain (OpenSpec.upto namesLettersSpec)) namesLettersUptoCard
end Rows
end Go.Proofs.YtnepcledbjnolaaDoor
