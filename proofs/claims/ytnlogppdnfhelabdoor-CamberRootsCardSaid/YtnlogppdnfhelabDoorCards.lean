/-
  DERIVED. GIVEN WITH THE SEED: THE CARDS: each row of YtnlogppdnfhelabDoorRows.lean that lists a variable, with what it lists TIED to the program's text (the seventh form; the later family's looks); each row that meets fmt, with fmt's text TOLD by the authors' own Lean function (tested against real Go, not proved from fmt's source: count such statements apart). THE CARD IS WHAT COUNTS. Prove the row's statement (the work); the ties are given (YtnlogppdnfhelabDoorTie.lean); close each card by the builder's one call (the guide's Derived/Test/ToyasCard.lean, 'card_holds'). Laid BY PROGRAM, IN A SANDBOX (cutbox-door.mjs). By AI agents, Wed Nov 11 2026. No macro, syntax, notation, axiom, sorry.
-/
import Derived.Test.YtnlogppdnfhelabDoorRows
import GoSem.ClaimSeven
namespace Go.Proofs.YtnlogppdnfhelabDoor
namespace Rows

/-- THE TIED CARD OF 'remouldlaw09.CamberWords'. -/
def camberWordsCard : Claim7 := { stood := { row := camberWordsRow, standIns := [], harness := (true, "1394b0d042ce1c638fb1bf5a59c72dc8b85695239dd4b0fa17a165bb051fb3dc"), looks := false }, kinds := [], alts := [], laidByText := true, laidKinds := [.data, .pinned], laidTests := true, laidLooks := .later }
def CamberWordsCardSaid : Prop := Claim7.holds Tryd.pinned (.plain (OpenSpec.ofChange camberWordsSpec)) camberWordsCard

/-- THE TIED CARD OF 'remouldlaw09.CamberRoots'. -/
def camberRootsCard : Claim7 := { stood := { row := camberRootsRow, standIns := [], harness := (true, "1394b0d042ce1c638fb1bf5a59c72dc8b85695239dd4b0fa17a165bb051fb3dc"), looks := false }, kinds := [], alts := [], laidByText := true, laidKinds := [.data, .pinned], laidTests := true, laidLooks := .later }
def CamberRootsCardSaid : Prop := Claim7.holds Tryd.pinned (.plain (OpenSpec.ofChange camberRootsSpec)) camberRootsCard

/-- THE SECOND FORM's CARD OF 'remouldlaw09.CamberWords'. -/
def camberWordsUptoCard : Claim7 := { stood := { row := camberWordsUptoRow, standIns := [], harness := (true, "1394b0d042ce1c638fb1bf5a59c72dc8b85695239dd4b0fa17a165bb051fb3dc"), looks := false }, kinds := [], alts := [], laidByText := true, laidKinds := [.data, .pinned], laidTests := true, laidLooks := .later }
def CamberWordsUptoCardSaid : Prop := Claim7.holds Tryd.pinned (.plain (OpenSpec.upto camberWordsSpec)) camberWordsUptoCard

/-- THE SECOND FORM's CARD OF 'remouldlaw09.CamberRoots'. -/
def camberRootsUptoCard : Claim7 := { stood := { row := camberRootsUptoRow, standIns := [], harness := (true, "1394b0d042ce1c638fb1bf5a59c72dc8b85695239dd4b0fa17a165bb051fb3dc"), looks := false }, kinds := [], alts := [], laidByText := true, laidKinds := [.data, .pinned], laidTests := true, laidLooks := .later }
def CamberRootsUptoCardSaid : Prop := Claim7.holds Tryd.pinned (.plain (OpenSpec.upto camberRootsSpec)) camberRootsUptoCard
end Rows
end Go.Proofs.YtnlogppdnfhelabDoor
