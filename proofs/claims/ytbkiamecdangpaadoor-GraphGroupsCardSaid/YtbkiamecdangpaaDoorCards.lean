/-
  DERIVED. GIVEN WITH THE SEED: THE CARDS: each row of YtbkiamecdangpaaDoorRows.lean that lists a variable, with what it lists TIED to the program's text (the seventh form; the later family's looks); each row that meets fmt, with fmt's text TOLD by the authors' own Lean function (tested against real Go, not proved from fmt's source: count such statements apart). THE CARD IS WHAT COUNTS. Prove the row's statement (the work); the ties are given (YtbkiamecdangpaaDoorTie.lean); close each card by the builder's one call (the guide's Derived/Test/ToyasCard.lean, 'card_holds'). Laid BY PROGRAM, IN A SANDBOX (cutbox-door.mjs). By AI agents, Wed Nov 11 2026. No macro, syntax, notation, axiom, sorry.
-/
import Derived.Test.YtbkiamecdangpaaDoorRows
import GoSem.ClaimSeven
namespace Go.Proofs.YtbkiamecdangpaaDoor
namespace Rows

/-- THE TIED CARD OF 'envoylaw13.GraphGroups'. -/
def graphGroupsCard : Claim7 := { stood := { row := graphGroupsRow, standIns := [], harness := (true, "3f29123ed05b98f9fd4371f3e9e02023e85dbb6291dd52eb49119d46454f0443"), looks := false }, kinds := [], alts := [], laidByText := true, laidKinds := [.data], laidTests := true, laidLooks := .later }
def GraphGroupsCardSaid : Prop := Claim7.holds Tryd.pinned (.plain (OpenSpec.ofChange graphGroupsSpec)) graphGroupsCard

/-- THE TIED CARD OF 'envoylaw13.GraphReach'. -/
def graphReachCard : Claim7 := { stood := { row := graphReachRow, standIns := [], harness := (true, "3f29123ed05b98f9fd4371f3e9e02023e85dbb6291dd52eb49119d46454f0443"), looks := false }, kinds := [], alts := [], laidByText := true, laidKinds := [.data], laidTests := true, laidLooks := .later }
def GraphReachCardSaid : Prop := Claim7.holds Tryd.pinned (.plain (OpenSpec.ofChange graphReachSpec)) graphReachCard

/-- THE TIED CARD OF 'envoylaw13.GraphAhead'. -/
def graphAheadCard : Claim7 := { stood := { row := graphAheadRow, standIns := [], harness := (true, "3f29123ed05b98f9fd4371f3e9e02023e85dbb6291dd52eb49119d46454f0443"), looks := false }, kinds := [], alts := [], laidByText := true, laidKinds := [.data], laidTests := true, laidLooks := .later }
def GraphAheadCardSaid : Prop := Claim7.holds Tryd.pinned (.plain (OpenSpec.ofChange graphAheadSpec)) graphAheadCard

/-- THE TIED CARD OF 'envoylaw13.GraphCycles'. -/
def graphCyclesCard : Claim7 := { stood := { row := graphCyclesRow, standIns := [], harness := (true, "3f29123ed05b98f9fd4371f3e9e02023e85dbb6291dd52eb49119d46454f0443"), looks := false }, kinds := [], alts := [], laidByText := true, laidKinds := [.data], laidTests := true, laidLooks := .later }
def GraphCyclesCardSaid : Prop := Claim7.holds Tryd.pinned (.plain (OpenSpec.ofChange graphCyclesSpec)) graphCyclesCard

/-- THE SECOND FORM's CARD OF 'envoylaw13.GraphGroups'. -/
def graphGroupsUptoCard : Claim7 := { stood := { row := graphGroupsUptoRow, standIns := [], harness := (true, "3f29123ed05b98f9fd4371f3e9e02023e85dbb6291dd52eb49119d46454f0443"), looks := false }, kinds := [], alts := [], laidByText := true, laidKinds := [.data], laidTests := true, laidLooks := .later }
def GraphGroupsUptoCardSaid : Prop := Claim7.holds Tryd.pinned (.plain (OpenSpec.upto graphGroupsSpec)) graphGroupsUptoCard

/-- THE SECOND FORM's CARD OF 'envoylaw13.GraphReach'. -/
def graphReachUptoCard : Claim7 := { stood := { row := graphReachUptoRow, standIns := [], harness := (true, "3f29123ed05b98f9fd4371f3e9e02023e85dbb6291dd52eb49119d46454f0443"), looks := false }, kinds := [], alts := [], laidByText := true, laidKinds := [.data], laidTests := true, laidLooks := .later }
def GraphReachUptoCardSaid : Prop := Claim7.holds Tryd.pinned (.plain (OpenSpec.upto graphReachSpec)) graphReachUptoCard

/-- THE SECOND FORM's CARD OF 'envoylaw13.GraphAhead'. -/
def graphAheadUptoCard : Claim7 := { stood := { row := graphAheadUptoRow, standIns := [], harness := (true, "3f29123ed05b98f9fd4371f3e9e02023e85dbb6291dd52eb49119d46454f0443"), looks := false }, kinds := [], alts := [], laidByText := true, laidKinds := [.data], laidTests := true, laidLooks := .later }
def GraphAheadUptoCardSaid : Prop := Claim7.holds Tryd.pinned (.plain (OpenSpec.upto graphAheadSpec)) graphAheadUptoCard

/-- THE SECOND FORM's CARD OF 'envoylaw13.GraphCycles'. -/
def graphCyclesUptoCard : Claim7 := { stood := { row := graphCyclesUptoRow, standIns := [], harness := (true, "3f29123ed05b98f9fd4371f3e9e02023e85dbb6291dd52eb49119d46454f0443"), looks := false }, kinds := [], alts := [], laidByText := true, laidKinds := [.data], laidTests := true, laidLooks := .later }
def GraphCyclesUptoCardSaid : Prop := Claim7.holds Tryd.pinned (.plain (OpenSpec.upto graphCyclesSpec)) graphCyclesUptoCard
end Rows
end Go.Proofs.YtbkiamecdangpaaDoor
