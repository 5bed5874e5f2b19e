/-
  DERIVED. GIVEN WITH THE SEED: THE CARDS: each row of YtnlogppdnfhelaaDoorRows.lean that lists a variable, with what it lists TIED to the program's text (the seventh form; the later family's looks); each row that meets fmt, with fmt's text TOLD by the authors' own Lean function (tested against real Go, not proved from fmt's source: count such statements apart). THE CARD IS WHAT COUNTS. Prove the row's statement (the work); the ties are given (YtnlogppdnfhelaaDoorTie.lean); close each card by the builder's one call (the guide's Derived/Test/ToyasCard.lean, 'card_holds'). Laid BY PROGRAM, IN A SANDBOX (cutbox-door.mjs). By AI agents, Wed Nov 11 2026. No macro, syntax, notation, axiom, sorry.
-/
import Derived.Test.YtnlogppdnfhelaaDoorRows
import GoSem.ClaimSeven
namespace Go.Proofs.YtnlogppdnfhelaaDoor
namespace Rows

/-- THE TIED CARD OF 'remouldlaw09.CamberTriples'. -/
def camberTriplesCard : Claim7 := { stood := { row := camberTriplesRow, standIns := [], harness := (true, "9ae71c9ed0b3231c6b8f660b88d02c1f9140b572fe83a3a538398062bf34cbeb"), looks := false }, kinds := [], alts := [], laidByText := true, laidKinds := [.data, .pinned], laidTests := true, laidLooks := .later }
def CamberTriplesCardSaid : Prop := Claim7.holds Tryd.pinned (.plain (OpenSpec.ofChange camberTriplesSpec)) camberTriplesCard

/-- THE TIED CARD OF 'remouldlaw09.CamberExchanges'. -/
def camberExchangesCard : Claim7 := { stood := { row := camberExchangesRow, standIns := [], harness := (true, "9ae71c9ed0b3231c6b8f660b88d02c1f9140b572fe83a3a538398062bf34cbeb"), looks := false }, kinds := [], alts := [], laidByText := true, laidKinds := [.data, .pinned], laidTests := true, laidLooks := .later }
def CamberExchangesCardSaid : Prop := Claim7.holds Tryd.pinned (.plain (OpenSpec.ofChange camberExchangesSpec)) camberExchangesCard

/-- THE TIED CARD OF 'remouldlaw09.CamberParents'. -/
def camberParentsCard : Claim7 := { stood := { row := camberParentsRow, standIns := [], harness := (true, "9ae71c9ed0b3231c6b8f660b88d02c1f9140b572fe83a3a538398062bf34cbeb"), looks := false }, kinds := [], alts := [], laidByText := true, laidKinds := [.data, .pinned], laidTests := true, laidLooks := .later }
def CamberParentsCardSaid : Prop := Claim7.holds Tryd.pinned (.plain (OpenSpec.ofChange camberParentsSpec)) camberParentsCard

/-- THE TIED CARD OF 'remouldlaw09.CamberPaths'. -/
def camberPathsCard : Claim7 := { stood := { row := camberPathsRow, standIns := [], harness := (true, "9ae71c9ed0b3231c6b8f660b88d02c1f9140b572fe83a3a538398062bf34cbeb"), looks := false }, kinds := [], alts := [], laidByText := true, laidKinds := [.data, .pinned], laidTests := true, laidLooks := .later }
def CamberPathsCardSaid : Prop := Claim7.holds Tryd.pinned (.plain (OpenSpec.ofChange camberPathsSpec)) camberPathsCard

/-- THE TIED CARD OF 'remouldlaw09.CamberFollows'. -/
def camberFollowsCard : Claim7 := { stood := { row := camberFollowsRow, standIns := [], harness := (true, "9ae71c9ed0b3231c6b8f660b88d02c1f9140b572fe83a3a538398062bf34cbeb"), looks := false }, kinds := [], alts := [], laidByText := true, laidKinds := [.data, .pinned], laidTests := true, laidLooks := .later }
def CamberFollowsCardSaid : Prop := Claim7.holds Tryd.pinned (.plain (OpenSpec.ofChange camberFollowsSpec)) camberFollowsCard

/-- THE TIED CARD OF 'remouldlaw09.CamberMatrices'. -/
def camberMatricesCard : Claim7 := { stood := { row := camberMatricesRow, standIns := [], harness := (true, "9ae71c9ed0b3231c6b8f660b88d02c1f9140b572fe83a3a538398062bf34cbeb"), looks := false }, kinds := [], alts := [], laidByText := true, laidKinds := [.data, .pinned], laidTests := true, laidLooks := .later }
def CamberMatricesCardSaid : Prop := Claim7.holds Tryd.pinned (.plain (OpenSpec.ofChange camberMatricesSpec)) camberMatricesCard

/-- THE SECOND FORM's CARD OF 'remouldlaw09.CamberTriples'. -/
def camberTriplesUptoCard : Claim7 := { stood := { row := camberTriplesUptoRow, standIns := [], harness := (true, "9ae71c9ed0b3231c6b8f660b88d02c1f9140b572fe83a3a538398062bf34cbeb"), looks := false }, kinds := [], alts := [], laidByText := true, laidKinds := [.data, .pinned], laidTests := true, laidLooks := .later }
def CamberTriplesUptoCardSaid : Prop := Claim7.holds Tryd.pinned (.plain (OpenSpec.upto camberTriplesSpec)) camberTriplesUptoCard

/-- THE SECOND FORM's CARD OF 'remouldlaw09.CamberExchanges'. -/
def camberExchangesUptoCard : Claim7 := { stood := { row := camberExchangesUptoRow, standIns := [], harness := (true, "9ae71c9ed0b3231c6b8f660b88d02c1f9140b572fe83a3a538398062bf34cbeb"), looks := false }, kinds := [], alts := [], laidByText := true, laidKinds := [.data, .pinned], laidTests := true, laidLooks := .later }
def CamberExchangesUptoCardSaid : Prop := Claim7.holds Tryd.pinned (.plain (OpenSpec.upto camberExchangesSpec)) camberExchangesUptoCard

/-- THE SECOND FORM's CARD OF 'remouldlaw09.CamberParents'. -/
def camberParentsUptoCard : Claim7 := { stood := { row := camberParentsUptoRow, standIns := [], harness := (true, "9ae71c9ed0b3231c6b8f660b88d02c1f9140b572fe83a3a538398062bf34cbeb"), looks := false }, kinds := [], alts := [], laidByText := true, laidKinds := [.data, .pinned], laidTests := true, laidLooks := .later }
def CamberParentsUptoCardSaid : Prop := Claim7.holds Tryd.pinned (.plain (OpenSpec.upto camberParentsSpec)) camberParentsUptoCard

/-- THE SECOND FORM's CARD OF 'remouldlaw09.CamberPaths'. -/
def camberPathsUptoCard : Claim7 := { stood := { row := camberPathsUptoRow, standIns := [], harness := (true, "9ae71c9ed0b3231c6b8f660b88d02c1f9140b572fe83a3a538398062bf34cbeb"), looks := false }, kinds := [], alts := [], laidByText := true, laidKinds := [.data, .pinned], laidTests := true, laidLooks := .later }
def CamberPathsUptoCardSaid : Prop := Claim7.holds Tryd.pinned (.plain (OpenSpec.upto camberPathsSpec)) camberPathsUptoCard

/-- THE SECOND FORM's CARD OF 'remouldlaw09.CamberFollows'. -/
def camberFollowsUptoCard : Claim7 := { stood := { row := camberFollowsUptoRow, standIns := [], harness := (true, "9ae71c9ed0b3231c6b8f660b88d02c1f9140b572fe83a3a538398062bf34cbeb"), looks := false }, kinds := [], alts := [], laidByText := true, laidKinds := [.data, .pinned], laidTests := true, laidLooks := .later }
def CamberFollowsUptoCardSaid : Prop := Claim7.holds Tryd.pinned (.plain (OpenSpec.upto camberFollowsSpec)) camberFollowsUptoCard

/-- THE SECOND FORM's CARD OF 'remouldlaw09.CamberMatrices'. -/
def camberMatricesUptoCard : Claim7 := { stood := { row := camberMatricesUptoRow, standIns := [], harness := (true, "9ae71c9ed0b3231c6b8f660b88d02c1f9140b572fe83a3a538398062bf34cbeb"), looks := false }, kinds := [], alts := [], laidByText := true, laidKinds := [.data, .pinned], laidTests := true, laidLooks := .later }
def CamberMatricesUptoCardSaid : Prop := Claim7.holds Tryd.pinned (.plain (OpenSpec.upto camberMatricesSpec)) camberMatricesUptoCard
end Rows
end Go.Proofs.YtnlogppdnfhelaaDoor
