/-
  DERIVED. GIVEN WITH THE SEED: THE CARDS: each row of YtahkoihlpkaohaaDoorRows.lean that lists a variable, with what it lists TIED to the program's text (the seventh form; the later family's looks); each row that meets fmt, with fmt's text TOLD by the authors' own Lean function (tested against real Go, not proved from fmt's source: count such statements apart). THE CARD IS WHAT COUNTS. Prove the row's statement (the work); the ties are given (YtahkoihlpkaohaaDoorTie.lean); close each card by the builder's one call (the guide's Derived/Test/ToyasCard.lean, 'card_holds'). Laid BY PROGRAM, IN A SANDBOX (cutbox-door.mjs). By AI agents, Wed Nov 11 2026. No macro, syntax, notation, axiom, sorry.
-/
import Derived.Test.YtahkoihlpkaohaaDoorRows
import GoSem.ClaimSeven
namespace Go.Proofs.YtahkoihlpkaohaaDoor
namespace Rows

/-- THE TIED CARD OF 'remouldlaw04.GaugeDivides'. -/
def gaugeDividesCard : Claim7 := { stood := { row := gaugeDividesRow, standIns := [], harness := (true, "5e720b1da407725914339c943d0bafc2c6440e3ee6c821f32c25b7ce5cc8f9d0"), looks := false }, kinds := [], alts := [], laidByText := true, laidKinds := [.data, .pinned], laidTests := true, laidLooks := .later }
def GaugeDividesCardSaid : Prop := Claim7.holds Tryd.pinned (.plain (OpenSpec.ofChange gaugeDividesSpec)) gaugeDividesCard

/-- THE TIED CARD OF 'remouldlaw04.GaugeOrdered'. -/
def gaugeOrderedCard : Claim7 := { stood := { row := gaugeOrderedRow, standIns := [], harness := (true, "5e720b1da407725914339c943d0bafc2c6440e3ee6c821f32c25b7ce5cc8f9d0"), looks := false }, kinds := [], alts := [], laidByText := true, laidKinds := [.data, .pinned], laidTests := true, laidLooks := .later }
def GaugeOrderedCardSaid : Prop := Claim7.holds Tryd.pinned (.plain (OpenSpec.ofChange gaugeOrderedSpec)) gaugeOrderedCard

/-- THE TIED CARD OF 'remouldlaw04.GaugeWhole'. -/
def gaugeWholeCard : Claim7 := { stood := { row := gaugeWholeRow, standIns := [], harness := (true, "5e720b1da407725914339c943d0bafc2c6440e3ee6c821f32c25b7ce5cc8f9d0"), looks := false }, kinds := [], alts := [], laidByText := true, laidKinds := [.data, .pinned], laidTests := true, laidLooks := .later }
def GaugeWholeCardSaid : Prop := Claim7.holds Tryd.pinned (.plain (OpenSpec.ofChange gaugeWholeSpec)) gaugeWholeCard

/-- THE TIED CARD OF 'remouldlaw04.GaugeUnits'. -/
def gaugeUnitsCard : Claim7 := { stood := { row := gaugeUnitsRow, standIns := [], harness := (true, "5e720b1da407725914339c943d0bafc2c6440e3ee6c821f32c25b7ce5cc8f9d0"), looks := false }, kinds := [], alts := [], laidByText := true, laidKinds := [.data, .pinned], laidTests := true, laidLooks := .later }
def GaugeUnitsCardSaid : Prop := Claim7.holds Tryd.pinned (.plain (OpenSpec.ofChange gaugeUnitsSpec)) gaugeUnitsCard

/-- THE TIED CARD OF 'remouldlaw04.GaugeLeft'. -/
def gaugeLeftCard : Claim7 := { stood := { row := gaugeLeftRow, standIns := [], harness := (true, "5e720b1da407725914339c943d0bafc2c6440e3ee6c821f32c25b7ce5cc8f9d0"), looks := false }, kinds := [], alts := [], laidByText := true, laidKinds := [.data, .pinned], laidTests := true, laidLooks := .later }
def GaugeLeftCardSaid : Prop := Claim7.holds Tryd.pinned (.plain (OpenSpec.ofChange gaugeLeftSpec)) gaugeLeftCard

/-- THE TIED CARD OF 'remouldlaw04.GaugeEuclid'. -/
def gaugeEuclidCard : Claim7 := { stood := { row := gaugeEuclidRow, standIns := [], harness := (true, "5e720b1da407725914339c943d0bafc2c6440e3ee6c821f32c25b7ce5cc8f9d0"), looks := false }, kinds := [], alts := [], laidByText := true, laidKinds := [.data, .pinned], laidTests := true, laidLooks := .later }
def GaugeEuclidCardSaid : Prop := Claim7.holds Tryd.pinned (.plain (OpenSpec.ofChange gaugeEuclidSpec)) gaugeEuclidCard

/-- THE SECOND FORM's CARD OF 'remouldlaw04.GaugeDivides'. -/
def gaugeDividesUptoCard : Claim7 := { stood := { row := gaugeDividesUptoRow, standIns := [], harness := (true, "5e720b1da407725914339c943d0bafc2c6440e3ee6c821f32c25b7ce5cc8f9d0"), looks := false }, kinds := [], alts := [], laidByText := true, laidKinds := [.data, .pinned], laidTests := true, laidLooks := .later }
def GaugeDividesUptoCardSaid : Prop := Claim7.holds Tryd.pinned (.plain (OpenSpec.upto gaugeDividesSpec)) gaugeDividesUptoCard

/-- THE SECOND FORM's CARD OF 'remouldlaw04.GaugeOrdered'. -/
def gaugeOrderedUptoCard : Claim7 := { stood := { row := gaugeOrderedUptoRow, standIns := [], harness := (true, "5e720b1da407725914339c943d0bafc2c6440e3ee6c821f32c25b7ce5cc8f9d0"), looks := false }, kinds := [], alts := [], laidByText := true, laidKinds := [.data, .pinned], laidTests := true, laidLooks := .later }
def GaugeOrderedUptoCardSaid : Prop := Claim7.holds Tryd.pinned (.plain (OpenSpec.upto gaugeOrderedSpec)) gaugeOrderedUptoCard

/-- THE SECOND FORM's CARD OF 'remouldlaw04.GaugeWhole'. -/
def gaugeWholeUptoCard : Claim7 := { stood := { row := gaugeWholeUptoRow, standIns := [], harness := (true, "5e720b1da407725914339c943d0bafc2c6440e3ee6c821f32c25b7ce5cc8f9d0"), looks := false }, kinds := [], alts := [], laidByText := true, laidKinds := [.data, .pinned], laidTests := true, laidLooks := .later }
def GaugeWholeUptoCardSaid : Prop := Claim7.holds Tryd.pinned (.plain (OpenSpec.upto gaugeWholeSpec)) gaugeWholeUptoCard

/-- THE SECOND FORM's CARD OF 'remouldlaw04.GaugeUnits'. -/
def gaugeUnitsUptoCard : Claim7 := { stood := { row := gaugeUnitsUptoRow, standIns := [], harness := (true, "5e720b1da407725914339c943d0bafc2c6440e3ee6c821f32c25b7ce5cc8f9d0"), looks := false }, kinds := [], alts := [], laidByText := true, laidKinds := [.data, .pinned], laidTests := true, laidLooks := .later }
def GaugeUnitsUptoCardSaid : Prop := Claim7.holds Tryd.pinned (.plain (OpenSpec.upto gaugeUnitsSpec)) gaugeUnitsUptoCard

/-- THE SECOND FORM's CARD OF 'remouldlaw04.GaugeLeft'. -/
def gaugeLeftUptoCard : Claim7 := { stood := { row := gaugeLeftUptoRow, standIns := [], harness := (true, "5e720b1da407725914339c943d0bafc2c6440e3ee6c821f32c25b7ce5cc8f9d0"), looks := false }, kinds := [], alts := [], laidByText := true, laidKinds := [.data, .pinned], laidTests := true, laidLooks := .later }
def GaugeLeftUptoCardSaid : Prop := Claim7.holds Tryd.pinned (.plain (OpenSpec.upto gaugeLeftSpec)) gaugeLeftUptoCard

/-- THE SECOND FORM's CARD OF 'remouldlaw04.GaugeEuclid'. -/
def gaugeEuclidUptoCard : Claim7 := { stood := { row := gaugeEuclidUptoRow, standIns := [], harness := (true, "5e720b1da407725914339c943d0bafc2c6440e3ee6c821f32c25b7ce5cc8f9d0"), looks := false }, kinds := [], alts := [], laidByText := true, laidKinds := [.data, .pinned], laidTests := true, laidLooks := .later }
def GaugeEuclidUptoCardSaid : Prop := Claim7.holds Tryd.pinned (.plain (OpenSpec.upto gaugeEuclidSpec)) gaugeEuclidUptoCard
end Rows
end Go.Proofs.YtahkoihlpkaohaaDoor
