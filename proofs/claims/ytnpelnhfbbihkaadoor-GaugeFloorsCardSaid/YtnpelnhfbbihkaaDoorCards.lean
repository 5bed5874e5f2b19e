/-
  DERIVED. GIVEN WITH THE SEED: THE CARDS: each row of YtnpelnhfbbihkaaDoorRows.lean that lists a variable, with what it lists TIED to the program's text (the seventh form; the later family's looks); each row that meets fmt, with fmt's text TOLD by the authors' own Lean function (tested against real Go, not proved from fmt's source: count such statements apart). THE CARD IS WHAT COUNTS. Prove the row's statement (the work); the ties are given (YtnpelnhfbbihkaaDoorTie.lean); close each card by the builder's one call (the guide's Derived/Test/ToyasCard.lean, 'card_holds'). Laid BY PROGRAM, IN A SANDBOX (cutbox-door.mjs). By AI agents, Wed Nov 11 2026. No macro, syntax, notation, axiom, sorry.
-/
import Derived.Test.YtnpelnhfbbihkaaDoorRows
import GoSem.ClaimSeven
namespace Go.Proofs.YtnpelnhfbbihkaaDoor
namespace Rows

/-- THE TIED CARD OF 'remouldlaw04.GaugeCompares'. -/
def gaugeComparesCard : Claim7 := { stood := { row := gaugeComparesRow, standIns := [], harness := (true, "2ec2fc385e0da65530abf6845cdc015016f0825265c6c7c385dcd6c07f553400"), looks := false }, kinds := [], alts := [], laidByText := true, laidKinds := [.data, .pinned], laidTests := true, laidLooks := .later }
def GaugeComparesCardSaid : Prop := Claim7.holds Tryd.pinned (.plain (OpenSpec.ofChange gaugeComparesSpec)) gaugeComparesCard

/-- THE TIED CARD OF 'remouldlaw04.GaugeFloors'. -/
def gaugeFloorsCard : Claim7 := { stood := { row := gaugeFloorsRow, standIns := [], harness := (true, "2ec2fc385e0da65530abf6845cdc015016f0825265c6c7c385dcd6c07f553400"), looks := false }, kinds := [], alts := [], laidByText := true, laidKinds := [.data, .pinned], laidTests := true, laidLooks := .later }
def GaugeFloorsCardSaid : Prop := Claim7.holds Tryd.pinned (.plain (OpenSpec.ofChange gaugeFloorsSpec)) gaugeFloorsCard

/-- THE TIED CARD OF 'remouldlaw04.GaugeProducts'. -/
def gaugeProductsCard : Claim7 := { stood := { row := gaugeProductsRow, standIns := [], harness := (true, "2ec2fc385e0da65530abf6845cdc015016f0825265c6c7c385dcd6c07f553400"), looks := false }, kinds := [], alts := [], laidByText := true, laidKinds := [.data, .pinned], laidTests := true, laidLooks := .later }
def GaugeProductsCardSaid : Prop := Claim7.holds Tryd.pinned (.plain (OpenSpec.ofChange gaugeProductsSpec)) gaugeProductsCard

/-- THE TIED CARD OF 'remouldlaw04.GaugePowers'. -/
def gaugePowersCard : Claim7 := { stood := { row := gaugePowersRow, standIns := [], harness := (true, "2ec2fc385e0da65530abf6845cdc015016f0825265c6c7c385dcd6c07f553400"), looks := false }, kinds := [], alts := [], laidByText := true, laidKinds := [.data, .pinned], laidTests := true, laidLooks := .later }
def GaugePowersCardSaid : Prop := Claim7.holds Tryd.pinned (.plain (OpenSpec.ofChange gaugePowersSpec)) gaugePowersCard

/-- THE TIED CARD OF 'remouldlaw04.GaugeDivides'. -/
def gaugeDividesCard : Claim7 := { stood := { row := gaugeDividesRow, standIns := [], harness := (true, "2ec2fc385e0da65530abf6845cdc015016f0825265c6c7c385dcd6c07f553400"), looks := false }, kinds := [], alts := [], laidByText := true, laidKinds := [.data, .pinned], laidTests := true, laidLooks := .later }
def GaugeDividesCardSaid : Prop := Claim7.holds Tryd.pinned (.plain (OpenSpec.ofChange gaugeDividesSpec)) gaugeDividesCard

/-- THE TIED CARD OF 'remouldlaw04.GaugeNorms'. -/
def gaugeNormsCard : Claim7 := { stood := { row := gaugeNormsRow, standIns := [], harness := (true, "2ec2fc385e0da65530abf6845cdc015016f0825265c6c7c385dcd6c07f553400"), looks := false }, kinds := [], alts := [], laidByText := true, laidKinds := [.data, .pinned], laidTests := true, laidLooks := .later }
def GaugeNormsCardSaid : Prop := Claim7.holds Tryd.pinned (.plain (OpenSpec.ofChange gaugeNormsSpec)) gaugeNormsCard

/-- THE SECOND FORM's CARD OF 'remouldlaw04.GaugeCompares'. -/
def gaugeComparesUptoCard : Claim7 := { stood := { row := gaugeComparesUptoRow, standIns := [], harness := (true, "2ec2fc385e0da65530abf6845cdc015016f0825265c6c7c385dcd6c07f553400"), looks := false }, kinds := [], alts := [], laidByText := true, laidKinds := [.data, .pinned], laidTests := true, laidLooks := .later }
def GaugeComparesUptoCardSaid : Prop := Claim7.holds Tryd.pinned (.plain (OpenSpec.upto gaugeComparesSpec)) gaugeComparesUptoCard

/-- THE SECOND FORM's CARD OF 'remouldlaw04.GaugeFloors'. -/
def gaugeFloorsUptoCard : Claim7 := { stood := { row := gaugeFloorsUptoRow, standIns := [], harness := (true, "2ec2fc385e0da65530abf6845cdc015016f0825265c6c7c385dcd6c07f553400"), looks := false }, kinds := [], alts := [], laidByText := true, laidKinds := [.data, .pinned], laidTests := true, laidLooks := .later }
def GaugeFloorsUptoCardSaid : Prop := Claim7.holds Tryd.pinned (.plain (OpenSpec.upto gaugeFloorsSpec)) gaugeFloorsUptoCard

/-- THE SECOND FORM's CARD OF 'remouldlaw04.GaugeProducts'. -/
def gaugeProductsUptoCard : Claim7 := { stood := { row := gaugeProductsUptoRow, standIns := [], harness := (true, "2ec2fc385e0da65530abf6845cdc015016f0825265c6c7c385dcd6c07f553400"), looks := false }, kinds := [], alts := [], laidByText := true, laidKinds := [.data, .pinned], laidTests := true, laidLooks := .later }
def GaugeProductsUptoCardSaid : Prop := Claim7.holds Tryd.pinned (.plain (OpenSpec.upto gaugeProductsSpec)) gaugeProductsUptoCard

/-- THE SECOND FORM's CARD OF 'remouldlaw04.GaugePowers'. -/
def gaugePowersUptoCard : Claim7 := { stood := { row := gaugePowersUptoRow, standIns := [], harness := (true, "2ec2fc385e0da65530abf6845cdc015016f0825265c6c7c385dcd6c07f553400"), looks := false }, kinds := [], alts := [], laidByText := true, laidKinds := [.data, .pinned], laidTests := true, laidLooks := .later }
def GaugePowersUptoCardSaid : Prop := Claim7.holds Tryd.pinned (.plain (OpenSpec.upto gaugePowersSpec)) gaugePowersUptoCard

/-- THE SECOND FORM's CARD OF 'remouldlaw04.GaugeDivides'. -/
def gaugeDividesUptoCard : Claim7 := { stood := { row := gaugeDividesUptoRow, standIns := [], harness := (true, "2ec2fc385e0da65530abf6845cdc015016f0825265c6c7c385dcd6c07f553400"), looks := false }, kinds := [], alts := [], laidByText := true, laidKinds := [.data, .pinned], laidTests := true, laidLooks := .later }
def GaugeDividesUptoCardSaid : Prop := Claim7.holds Tryd.pinned (.plain (OpenSpec.upto gaugeDividesSpec)) gaugeDividesUptoCard

/-- THE SECOND FORM's CARD OF 'remouldlaw04.GaugeNorms'. -/
def gaugeNormsUptoCard : Claim7 := { stood := { row := gaugeNormsUptoRow, standIns := [], harness := (true, "2ec2fc385e0da65530abf6845cdc015016f0825265c6c7c385dcd6c07f553400"), looks := false }, kinds := [], alts := [], laidByText := true, laidKinds := [.data, .pinned], laidTests := true, laidLooks := .later }
def GaugeNormsUptoCardSaid : Prop := Claim7.holds Tryd.pinned (.plain (OpenSpec.upto gaugeNormsSpec)) gaugeNormsUptoCard
end Rows
end Go.Proofs.YtnpelnhfbbihkaaDoor
