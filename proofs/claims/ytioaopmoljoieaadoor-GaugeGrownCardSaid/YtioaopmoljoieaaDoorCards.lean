/-
  DERIVED. GIVEN WITH THE SEED: THE CARDS: each row of YtioaopmoljoieaaDoorRows.lean that lists a variable, with what it lists TIED to the program's text (the seventh form; the later family's looks); each row that meets fmt, with fmt's text TOLD by the authors' own Lean function (tested against real Go, not proved from fmt's source: count such statements apart). THE CARD IS WHAT COUNTS. Prove the row's statement (the work); the ties are given (YtioaopmoljoieaaDoorTie.lean); close each card by the builder's one call (the guide's Derived/Test/ToyasCard.lean, 'card_holds'). Laid BY PROGRAM, IN A SANDBOX (cutbox-door.mjs). By AI agents, Wed Nov 11 2026. No macro, syntax, notation, axiom, sorry.
-/
import Derived.Test.YtioaopmoljoieaaDoorRows
import GoSem.ClaimSeven
namespace Go.Proofs.YtioaopmoljoieaaDoor
namespace Rows

/-- THE TIED CARD OF 'remouldlaw04.GaugeRungs'. -/
def gaugeRungsCard : Claim7 := { stood := { row := gaugeRungsRow, standIns := [], harness := (true, "3946e9976fa95b81efca2a5c885e8950c67c3dc1ef7f91a0471b2c1d34423efc"), looks := false }, kinds := [], alts := [], laidByText := true, laidKinds := [.data, .pinned], laidTests := true, laidLooks := .later }
def GaugeRungsCardSaid : Prop := Claim7.holds Tryd.pinned (.plain (OpenSpec.ofChange gaugeRungsSpec)) gaugeRungsCard

/-- THE TIED CARD OF 'remouldlaw04.GaugeTexts'. -/
def gaugeTextsCard : Claim7 := { stood := { row := gaugeTextsRow, standIns := [], harness := (true, "3946e9976fa95b81efca2a5c885e8950c67c3dc1ef7f91a0471b2c1d34423efc"), looks := false }, kinds := [], alts := [], laidByText := true, laidKinds := [.data, .pinned], laidTests := true, laidLooks := .later }
def GaugeTextsCardSaid : Prop := Claim7.holds Tryd.pinned (.plain (OpenSpec.ofChange gaugeTextsSpec)) gaugeTextsCard

/-- THE TIED CARD OF 'remouldlaw04.GaugeGrown'. -/
def gaugeGrownCard : Claim7 := { stood := { row := gaugeGrownRow, standIns := [], harness := (true, "3946e9976fa95b81efca2a5c885e8950c67c3dc1ef7f91a0471b2c1d34423efc"), looks := false }, kinds := [], alts := [], laidByText := true, laidKinds := [.data, .pinned], laidTests := true, laidLooks := .later }
def GaugeGrownCardSaid : Prop := Claim7.holds Tryd.pinned (.plain (OpenSpec.ofChange gaugeGrownSpec)) gaugeGrownCard

/-- THE TIED CARD OF 'remouldlaw04.GaugeBelows'. -/
def gaugeBelowsCard : Claim7 := { stood := { row := gaugeBelowsRow, standIns := [], harness := (true, "3946e9976fa95b81efca2a5c885e8950c67c3dc1ef7f91a0471b2c1d34423efc"), looks := false }, kinds := [], alts := [], laidByText := true, laidKinds := [.data, .pinned], laidTests := true, laidLooks := .later }
def GaugeBelowsCardSaid : Prop := Claim7.holds Tryd.pinned (.plain (OpenSpec.ofChange gaugeBelowsSpec)) gaugeBelowsCard

/-- THE SECOND FORM's CARD OF 'remouldlaw04.GaugeRungs'. -/
def gaugeRungsUptoCard : Claim7 := { stood := { row := gaugeRungsUptoRow, standIns := [], harness := (true, "3946e9976fa95b81efca2a5c885e8950c67c3dc1ef7f91a0471b2c1d34423efc"), looks := false }, kinds := [], alts := [], laidByText := true, laidKinds := [.data, .pinned], laidTests := true, laidLooks := .later }
def GaugeRungsUptoCardSaid : Prop := Claim7.holds Tryd.pinned (.plain (OpenSpec.upto gaugeRungsSpec)) gaugeRungsUptoCard

/-- THE SECOND FORM's CARD OF 'remouldlaw04.GaugeTexts'. -/
def gaugeTextsUptoCard : Claim7 := { stood := { row := gaugeTextsUptoRow, standIns := [], harness := (true, "3946e9976fa95b81efca2a5c885e8950c67c3dc1ef7f91a0471b2c1d34423efc"), looks := false }, kinds := [], alts := [], laidByText := true, laidKinds := [.data, .pinned], laidTests := true, laidLooks := .later }
def GaugeTextsUptoCardSaid : Prop := Claim7.holds Tryd.pinned (.plain (OpenSpec.upto gaugeTextsSpec)) gaugeTextsUptoCard

/-- THE SECOND FORM's CARD OF 'remouldlaw04.GaugeGrown'. -/
def gaugeGrownUptoCard : Claim7 := { stood := { row := gaugeGrownUptoRow, standIns := [], harness := (true, "3946e9976fa95b81efca2a5c885e8950c67c3dc1ef7f91a0471b2c1d34423efc"), looks := false }, kinds := [], alts := [], laidByText := true, laidKinds := [.data, .pinned], laidTests := true, laidLooks := .later }
def GaugeGrownUptoCardSaid : Prop := Claim7.holds Tryd.pinned (.plain (OpenSpec.upto gaugeGrownSpec)) gaugeGrownUptoCard

/-- THE SECOND FORM's CARD OF 'remouldlaw04.GaugeBelows'. -/
def gaugeBelowsUptoCard : Claim7 := { stood := { row := gaugeBelowsUptoRow, standIns := [], harness := (true, "3946e9976fa95b81efca2a5c885e8950c67c3dc1ef7f91a0471b2c1d34423efc"), looks := false }, kinds := [], alts := [], laidByText := true, laidKinds := [.data, .pinned], laidTests := true, laidLooks := .later }
def GaugeBelowsUptoCardSaid : Prop := Claim7.holds Tryd.pinned (.plain (OpenSpec.upto gaugeBelowsSpec)) gaugeBelowsUptoCard
end Rows
end Go.Proofs.YtioaopmoljoieaaDoor
