/-
  DERIVED. GIVEN WITH THE SEED: THE CARDS: each row of YteffkcnlipdgaaaDoorRows.lean that lists a variable, with what it lists TIED to the program's text (the seventh form; the later family's looks); each row that meets fmt, with fmt's text TOLD by the authors' own Lean function (tested against real Go, not proved from fmt's source: count such statements apart). THE CARD IS WHAT COUNTS. Prove the row's statement (the work); the ties are given (YteffkcnlipdgaaaDoorTie.lean); close each card by the builder's one call (the guide's Derived/Test/ToyasCard.lean, 'card_holds'). Laid BY PROGRAM, IN A SANDBOX (cutbox-door.mjs). By AI agents, Wed Nov 11 2026. No macro, syntax, notation, axiom, sorry.
-/
import Derived.Test.YteffkcnlipdgaaaDoorRows
import GoSem.ClaimSeven
namespace Go.Proofs.YteffkcnlipdgaaaDoor
namespace Rows

/-- THE TIED CARD OF 'remouldlaw09.CamberVieta'. -/
def camberVietaCard : Claim7 := { stood := { row := camberVietaRow, standIns := [], harness := (true, "23909c0278804eda3d48766739e4463fcd9bfeae7c4c3d92dc000af25dfcf35c"), looks := false }, kinds := [], alts := [], laidByText := true, laidKinds := [.data, .pinned], laidTests := true, laidLooks := .later }
def CamberVietaCardSaid : Prop := Claim7.holds Tryd.pinned (.plain (OpenSpec.ofChange camberVietaSpec)) camberVietaCard

/-- THE TIED CARD OF 'remouldlaw09.CamberCoprime'. -/
def camberCoprimeCard : Claim7 := { stood := { row := camberCoprimeRow, standIns := [], harness := (true, "23909c0278804eda3d48766739e4463fcd9bfeae7c4c3d92dc000af25dfcf35c"), looks := false }, kinds := [], alts := [], laidByText := true, laidKinds := [.data, .pinned], laidTests := true, laidLooks := .later }
def CamberCoprimeCardSaid : Prop := Claim7.holds Tryd.pinned (.plain (OpenSpec.ofChange camberCoprimeSpec)) camberCoprimeCard

/-- THE TIED CARD OF 'remouldlaw09.CamberRooted'. -/
def camberRootedCard : Claim7 := { stood := { row := camberRootedRow, standIns := [], harness := (true, "23909c0278804eda3d48766739e4463fcd9bfeae7c4c3d92dc000af25dfcf35c"), looks := false }, kinds := [], alts := [], laidByText := true, laidKinds := [.data, .pinned], laidTests := true, laidLooks := .later }
def CamberRootedCardSaid : Prop := Claim7.holds Tryd.pinned (.plain (OpenSpec.ofChange camberRootedSpec)) camberRootedCard

/-- THE TIED CARD OF 'remouldlaw09.CamberForms'. -/
def camberFormsCard : Claim7 := { stood := { row := camberFormsRow, standIns := [], harness := (true, "23909c0278804eda3d48766739e4463fcd9bfeae7c4c3d92dc000af25dfcf35c"), looks := false }, kinds := [], alts := [], laidByText := true, laidKinds := [.data, .pinned], laidTests := true, laidLooks := .later }
def CamberFormsCardSaid : Prop := Claim7.holds Tryd.pinned (.plain (OpenSpec.ofChange camberFormsSpec)) camberFormsCard

/-- THE TIED CARD OF 'remouldlaw09.CamberTree'. -/
def camberTreeCard : Claim7 := { stood := { row := camberTreeRow, standIns := [], harness := (true, "23909c0278804eda3d48766739e4463fcd9bfeae7c4c3d92dc000af25dfcf35c"), looks := false }, kinds := [], alts := [], laidByText := true, laidKinds := [.data, .pinned], laidTests := true, laidLooks := .later }
def CamberTreeCardSaid : Prop := Claim7.holds Tryd.pinned (.plain (OpenSpec.ofChange camberTreeSpec)) camberTreeCard

/-- THE TIED CARD OF 'remouldlaw09.CamberDet'. -/
def camberDetCard : Claim7 := { stood := { row := camberDetRow, standIns := [], harness := (true, "23909c0278804eda3d48766739e4463fcd9bfeae7c4c3d92dc000af25dfcf35c"), looks := false }, kinds := [], alts := [], laidByText := true, laidKinds := [.data, .pinned], laidTests := true, laidLooks := .later }
def CamberDetCardSaid : Prop := Claim7.holds Tryd.pinned (.plain (OpenSpec.ofChange camberDetSpec)) camberDetCard

/-- THE SECOND FORM's CARD OF 'remouldlaw09.CamberVieta'. -/
def camberVietaUptoCard : Claim7 := { stood := { row := camberVietaUptoRow, standIns := [], harness := (true, "23909c0278804eda3d48766739e4463fcd9bfeae7c4c3d92dc000af25dfcf35c"), looks := false }, kinds := [], alts := [], laidByText := true, laidKinds := [.data, .pinned], laidTests := true, laidLooks := .later }
def CamberVietaUptoCardSaid : Prop := Claim7.holds Tryd.pinned (.plain (OpenSpec.upto camberVietaSpec)) camberVietaUptoCard

/-- THE SECOND FORM's CARD OF 'remouldlaw09.CamberCoprime'. -/
def camberCoprimeUptoCard : Claim7 := { stood := { row := camberCoprimeUptoRow, standIns := [], harness := (true, "23909c0278804eda3d48766739e4463fcd9bfeae7c4c3d92dc000af25dfcf35c"), looks := false }, kinds := [], alts := [], laidByText := true, laidKinds := [.data, .pinned], laidTests := true, laidLooks := .later }
def CamberCoprimeUptoCardSaid : Prop := Claim7.holds Tryd.pinned (.plain (OpenSpec.upto camberCoprimeSpec)) camberCoprimeUptoCard

/-- THE SECOND FORM's CARD OF 'remouldlaw09.CamberRooted'. -/
def camberRootedUptoCard : Claim7 := { stood := { row := camberRootedUptoRow, standIns := [], harness := (true, "23909c0278804eda3d48766739e4463fcd9bfeae7c4c3d92dc000af25dfcf35c"), looks := false }, kinds := [], alts := [], laidByText := true, laidKinds := [.data, .pinned], laidTests := true, laidLooks := .later }
def CamberRootedUptoCardSaid : Prop := Claim7.holds Tryd.pinned (.plain (OpenSpec.upto camberRootedSpec)) camberRootedUptoCard

/-- THE SECOND FORM's CARD OF 'remouldlaw09.CamberForms'. -/
def camberFormsUptoCard : Claim7 := { stood := { row := camberFormsUptoRow, standIns := [], harness := (true, "23909c0278804eda3d48766739e4463fcd9bfeae7c4c3d92dc000af25dfcf35c"), looks := false }, kinds := [], alts := [], laidByText := true, laidKinds := [.data, .pinned], laidTests := true, laidLooks := .later }
def CamberFormsUptoCardSaid : Prop := Claim7.holds Tryd.pinned (.plain (OpenSpec.upto camberFormsSpec)) camberFormsUptoCard

/-- THE SECOND FORM's CARD OF 'remouldlaw09.CamberTree'. -/
def camberTreeUptoCard : Claim7 := { stood := { row := camberTreeUptoRow, standIns := [], harness := (true, "23909c0278804eda3d48766739e4463fcd9bfeae7c4c3d92dc000af25dfcf35c"), looks := false }, kinds := [], alts := [], laidByText := true, laidKinds := [.data, .pinned], laidTests := true, laidLooks := .later }
def CamberTreeUptoCardSaid : Prop := Claim7.holds Tryd.pinned (.plain (OpenSpec.upto camberTreeSpec)) camberTreeUptoCard

/-- THE SECOND FORM's CARD OF 'remouldlaw09.CamberDet'. -/
def camberDetUptoCard : Claim7 := { stood := { row := camberDetUptoRow, standIns := [], harness := (true, "23909c0278804eda3d48766739e4463fcd9bfeae7c4c3d92dc000af25dfcf35c"), looks := false }, kinds := [], alts := [], laidByText := true, laidKinds := [.data, .pinned], laidTests := true, laidLooks := .later }
def CamberDetUptoCardSaid : Prop := Claim7.holds Tryd.pinned (.plain (OpenSpec.upto camberDetSpec)) camberDetUptoCard
end Rows
end Go.Proofs.YteffkcnlipdgaaaDoor
