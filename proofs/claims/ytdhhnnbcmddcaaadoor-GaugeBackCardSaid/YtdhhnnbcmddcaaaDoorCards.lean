/-
  DERIVED. GIVEN WITH THE SEED: THE CARDS: each row of YtdhhnnbcmddcaaaDoorRows.lean that lists a variable, with what it lists TIED to the program's text (the seventh form; the later family's looks); each row that meets fmt, with fmt's text TOLD by the authors' own Lean function (tested against real Go, not proved from fmt's source: count such statements apart). THE CARD IS WHAT COUNTS. Prove the row's statement (the work); the ties are given (YtdhhnnbcmddcaaaDoorTie.lean); close each card by the builder's one call (the guide's Derived/Test/ToyasCard.lean, 'card_holds'). Laid BY PROGRAM, IN A SANDBOX (cutbox-door.mjs). By AI agents, Wed Nov 11 2026. No macro, syntax, notation, axiom, sorry.
-/
import Derived.Test.YtdhhnnbcmddcaaaDoorRows
import GoSem.ClaimSeven
namespace Go.Proofs.YtdhhnnbcmddcaaaDoor
namespace Rows

/-- THE TIED CARD OF 'remouldlaw04.GaugeBelows'. -/
def gaugeBelowsCard : Claim7 := { stood := { row := gaugeBelowsRow, standIns := [], harness := (true, "d9cd0ac1c01f4efb91eb6bc63cea6ede847cb9532495cf34fcfcc7014c80a0a8"), looks := false }, kinds := [], alts := [], laidByText := true, laidKinds := [.data, .pinned], laidTests := true, laidLooks := .later }
def GaugeBelowsCardSaid : Prop := Claim7.holds Tryd.pinned (.plain (OpenSpec.ofChange gaugeBelowsSpec)) gaugeBelowsCard

/-- THE TIED CARD OF 'remouldlaw04.GaugeClimbed'. -/
def gaugeClimbedCard : Claim7 := { stood := { row := gaugeClimbedRow, standIns := [], harness := (true, "d9cd0ac1c01f4efb91eb6bc63cea6ede847cb9532495cf34fcfcc7014c80a0a8"), looks := false }, kinds := [], alts := [], laidByText := true, laidKinds := [.data, .pinned], laidTests := true, laidLooks := .later }
def GaugeClimbedCardSaid : Prop := Claim7.holds Tryd.pinned (.plain (OpenSpec.ofChange gaugeClimbedSpec)) gaugeClimbedCard

/-- THE TIED CARD OF 'remouldlaw04.GaugeCounted'. -/
def gaugeCountedCard : Claim7 := { stood := { row := gaugeCountedRow, standIns := [], harness := (true, "d9cd0ac1c01f4efb91eb6bc63cea6ede847cb9532495cf34fcfcc7014c80a0a8"), looks := false }, kinds := [], alts := [], laidByText := true, laidKinds := [.data, .pinned], laidTests := true, laidLooks := .later }
def GaugeCountedCardSaid : Prop := Claim7.holds Tryd.pinned (.plain (OpenSpec.ofChange gaugeCountedSpec)) gaugeCountedCard

/-- THE TIED CARD OF 'remouldlaw04.GaugeTexts'. -/
def gaugeTextsCard : Claim7 := { stood := { row := gaugeTextsRow, standIns := [], harness := (true, "d9cd0ac1c01f4efb91eb6bc63cea6ede847cb9532495cf34fcfcc7014c80a0a8"), looks := false }, kinds := [], alts := [], laidByText := true, laidKinds := [.data, .pinned], laidTests := true, laidLooks := .later }
def GaugeTextsCardSaid : Prop := Claim7.holds Tryd.pinned (.plain (OpenSpec.ofChange gaugeTextsSpec)) gaugeTextsCard

/-- THE TIED CARD OF 'remouldlaw04.GaugeBack'. -/
def gaugeBackCard : Claim7 := { stood := { row := gaugeBackRow, standIns := [], harness := (true, "d9cd0ac1c01f4efb91eb6bc63cea6ede847cb9532495cf34fcfcc7014c80a0a8"), looks := false }, kinds := [], alts := [], laidByText := true, laidKinds := [.data, .pinned], laidTests := true, laidLooks := .later }
def GaugeBackCardSaid : Prop := Claim7.holds Tryd.pinned (.plain (OpenSpec.ofChange gaugeBackSpec)) gaugeBackCard

/-- THE SECOND FORM's CARD OF 'remouldlaw04.GaugeBelows'. -/
def gaugeBelowsUptoCard : Claim7 := { stood := { row := gaugeBelowsUptoRow, standIns := [], harness := (true, "d9cd0ac1c01f4efb91eb6bc63cea6ede847cb9532495cf34fcfcc7014c80a0a8"), looks := false }, kinds := [], alts := [], laidByText := true, laidKinds := [.data, .pinned], laidTests := true, laidLooks := .later }
def GaugeBelowsUptoCardSaid : Prop := Claim7.holds Tryd.pinned (.plain (OpenSpec.upto gaugeBelowsSpec)) gaugeBelowsUptoCard

/-- THE SECOND FORM's CARD OF 'remouldlaw04.GaugeClimbed'. -/
def gaugeClimbedUptoCard : Claim7 := { stood := { row := gaugeClimbedUptoRow, standIns := [], harness := (true, "d9cd0ac1c01f4efb91eb6bc63cea6ede847cb9532495cf34fcfcc7014c80a0a8"), looks := false }, kinds := [], alts := [], laidByText := true, laidKinds := [.data, .pinned], laidTests := true, laidLooks := .later }
def GaugeClimbedUptoCardSaid : Prop := Claim7.holds Tryd.pinned (.plain (OpenSpec.upto gaugeClimbedSpec)) gaugeClimbedUptoCard

/-- THE SECOND FORM's CARD OF 'remouldlaw04.GaugeCounted'. -/
def gaugeCountedUptoCard : Claim7 := { stood := { row := gaugeCountedUptoRow, standIns := [], harness := (true, "d9cd0ac1c01f4efb91eb6bc63cea6ede847cb9532495cf34fcfcc7014c80a0a8"), looks := false }, kinds := [], alts := [], laidByText := true, laidKinds := [.data, .pinned], laidTests := true, laidLooks := .later }
def GaugeCountedUptoCardSaid : Prop := Claim7.holds Tryd.pinned (.plain (OpenSpec.upto gaugeCountedSpec)) gaugeCountedUptoCard

/-- THE SECOND FORM's CARD OF 'remouldlaw04.GaugeTexts'. -/
def gaugeTextsUptoCard : Claim7 := { stood := { row := gaugeTextsUptoRow, standIns := [], harness := (true, "d9cd0ac1c01f4efb91eb6bc63cea6ede847cb9532495cf34fcfcc7014c80a0a8"), looks := false }, kinds := [], alts := [], laidByText := true, laidKinds := [.data, .pinned], laidTests := true, laidLooks := .later }
def GaugeTextsUptoCardSaid : Prop := Claim7.holds Tryd.pinned (.plain (OpenSpec.upto gaugeTextsSpec)) gaugeTextsUptoCard

/-- THE SECOND FORM's CARD OF 'remouldlaw04.GaugeBack'. -/
def gaugeBackUptoCard : Claim7 := { stood := { row := gaugeBackUptoRow, standIns := [], harness := (true, "d9cd0ac1c01f4efb91eb6bc63cea6ede847cb9532495cf34fcfcc7014c80a0a8"), looks := false }, kinds := [], alts := [], laidByText := true, laidKinds := [.data, .pinned], laidTests := true, laidLooks := .later }
def GaugeBackUptoCardSaid : Prop := Claim7.holds Tryd.pinned (.plain (OpenSpec.upto gaugeBackSpec)) gaugeBackUptoCard
end Rows
end Go.Proofs.YtdhhnnbcmddcaaaDoor
