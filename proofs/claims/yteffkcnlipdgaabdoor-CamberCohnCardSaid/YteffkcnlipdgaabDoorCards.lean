/-
  DERIVED. GIVEN WITH THE SEED: THE CARDS: each row of YteffkcnlipdgaabDoorRows.lean that lists a variable, with what it lists TIED to the program's text (the seventh form; the later family's looks); each row that meets fmt, with fmt's text TOLD by the authors' own Lean function (tested against real Go, not proved from fmt's source: count such statements apart). THE CARD IS WHAT COUNTS. Prove the row's statement (the work); the ties are given (YteffkcnlipdgaabDoorTie.lean); close each card by the builder's one call (the guide's Derived/Test/ToyasCard.lean, 'card_holds'). Laid BY PROGRAM, IN A SANDBOX (cutbox-door.mjs). By AI agents, Wed Nov 11 2026. No macro, syntax, notation, axiom, sorry.
-/
import Derived.Test.YteffkcnlipdgaabDoorRows
import GoSem.ClaimSeven
namespace Go.Proofs.YteffkcnlipdgaabDoor
namespace Rows

/-- THE TIED CARD OF 'remouldlaw09.CamberLetters'. -/
def camberLettersCard : Claim7 := { stood := { row := camberLettersRow, standIns := [], harness := (true, "4a677f90dd53b6511a533502d2c766700a204020bb7fa1515d44b280517a66b1"), looks := false }, kinds := [], alts := [], laidByText := true, laidKinds := [.data, .pinned], laidTests := true, laidLooks := .later }
def CamberLettersCardSaid : Prop := Claim7.holds Tryd.pinned (.plain (OpenSpec.ofChange camberLettersSpec)) camberLettersCard

/-- THE TIED CARD OF 'remouldlaw09.CamberCohn'. -/
def camberCohnCard : Claim7 := { stood := { row := camberCohnRow, standIns := [], harness := (true, "4a677f90dd53b6511a533502d2c766700a204020bb7fa1515d44b280517a66b1"), looks := false }, kinds := [], alts := [], laidByText := true, laidKinds := [.data, .pinned], laidTests := true, laidLooks := .later }
def CamberCohnCardSaid : Prop := Claim7.holds Tryd.pinned (.plain (OpenSpec.ofChange camberCohnSpec)) camberCohnCard

/-- THE SECOND FORM's CARD OF 'remouldlaw09.CamberLetters'. -/
def camberLettersUptoCard : Claim7 := { stood := { row := camberLettersUptoRow, standIns := [], harness := (true, "4a677f90dd53b6511a533502d2c766700a204020bb7fa1515d44b280517a66b1"), looks := false }, kinds := [], alts := [], laidByText := true, laidKinds := [.data, .pinned], laidTests := true, laidLooks := .later }
def CamberLettersUptoCardSaid : Prop := Claim7.holds Tryd.pinned (.plain (OpenSpec.upto camberLettersSpec)) camberLettersUptoCard

/-- THE SECOND FORM's CARD OF 'remouldlaw09.CamberCohn'. -/
def camberCohnUptoCard : Claim7 := { stood := { row := camberCohnUptoRow, standIns := [], harness := (true, "4a677f90dd53b6511a533502d2c766700a204020bb7fa1515d44b280517a66b1"), looks := false }, kinds := [], alts := [], laidByText := true, laidKinds := [.data, .pinned], laidTests := true, laidLooks := .later }
def CamberCohnUptoCardSaid : Prop := Claim7.holds Tryd.pinned (.plain (OpenSpec.upto camberCohnSpec)) camberCohnUptoCard
end Rows
end Go.Proofs.YteffkcnlipdgaabDoor
