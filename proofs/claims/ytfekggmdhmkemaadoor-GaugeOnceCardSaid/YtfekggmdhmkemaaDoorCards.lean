/-
  DERIVED. GIVEN WITH THE SEED: THE CARDS: each row of YtfekggmdhmkemaaDoorRows.lean that lists a variable, with what it lists TIED to the program's text (the seventh form; the later family's looks); each row that meets fmt, with fmt's text TOLD by the authors' own Lean function (tested against real Go, not proved from fmt's source: count such statements apart). THE CARD IS WHAT COUNTS. Prove the row's statement (the work); the ties are given (YtfekggmdhmkemaaDoorTie.lean); close each card by the builder's one call (the guide's Derived/Test/ToyasCard.lean, 'card_holds'). Laid BY PROGRAM, IN A SANDBOX (cutbox-door.mjs). By AI agents, Wed Nov 11 2026. No macro, syntax, notation, axiom, sorry.
-/
import Derived.Test.YtfekggmdhmkemaaDoorRows
import GoSem.ClaimSeven
namespace Go.Proofs.YtfekggmdhmkemaaDoor
namespace Rows

/-- THE TIED CARD OF 'remouldlaw04.GaugeValues'. -/
def gaugeValuesCard : Claim7 := { stood := { row := gaugeValuesRow, standIns := [], harness := (true, "16c51bf6a209c1b34c7046375886a64c4663e2e32e51f1813678f98953618e00"), looks := false }, kinds := [], alts := [], laidByText := true, laidKinds := [.data, .pinned], laidTests := true, laidLooks := .later }
def GaugeValuesCardSaid : Prop := Claim7.holds Tryd.pinned (.plain (OpenSpec.ofChange gaugeValuesSpec)) gaugeValuesCard

/-- THE TIED CARD OF 'remouldlaw04.GaugeAdds'. -/
def gaugeAddsCard : Claim7 := { stood := { row := gaugeAddsRow, standIns := [], harness := (true, "16c51bf6a209c1b34c7046375886a64c4663e2e32e51f1813678f98953618e00"), looks := false }, kinds := [], alts := [], laidByText := true, laidKinds := [.data, .pinned], laidTests := true, laidLooks := .later }
def GaugeAddsCardSaid : Prop := Claim7.holds Tryd.pinned (.plain (OpenSpec.ofChange gaugeAddsSpec)) gaugeAddsCard

/-- THE TIED CARD OF 'remouldlaw04.GaugeOnce'. -/
def gaugeOnceCard : Claim7 := { stood := { row := gaugeOnceRow, standIns := [], harness := (true, "16c51bf6a209c1b34c7046375886a64c4663e2e32e51f1813678f98953618e00"), looks := false }, kinds := [], alts := [], laidByText := true, laidKinds := [.data, .pinned], laidTests := true, laidLooks := .later }
def GaugeOnceCardSaid : Prop := Claim7.holds Tryd.pinned (.plain (OpenSpec.ofChange gaugeOnceSpec)) gaugeOnceCard

/-- THE TIED CARD OF 'remouldlaw04.GaugeCarried'. -/
def gaugeCarriedCard : Claim7 := { stood := { row := gaugeCarriedRow, standIns := [], harness := (true, "16c51bf6a209c1b34c7046375886a64c4663e2e32e51f1813678f98953618e00"), looks := false }, kinds := [], alts := [], laidByText := true, laidKinds := [.data, .pinned], laidTests := true, laidLooks := .later }
def GaugeCarriedCardSaid : Prop := Claim7.holds Tryd.pinned (.plain (OpenSpec.ofChange gaugeCarriedSpec)) gaugeCarriedCard

/-- THE TIED CARD OF 'remouldlaw04.GaugeSums'. -/
def gaugeSumsCard : Claim7 := { stood := { row := gaugeSumsRow, standIns := [], harness := (true, "16c51bf6a209c1b34c7046375886a64c4663e2e32e51f1813678f98953618e00"), looks := false }, kinds := [], alts := [], laidByText := true, laidKinds := [.data, .pinned], laidTests := true, laidLooks := .later }
def GaugeSumsCardSaid : Prop := Claim7.holds Tryd.pinned (.plain (OpenSpec.ofChange gaugeSumsSpec)) gaugeSumsCard

/-- THE SECOND FORM's CARD OF 'remouldlaw04.GaugeValues'. -/
def gaugeValuesUptoCard : Claim7 := { stood := { row := gaugeValuesUptoRow, standIns := [], harness := (true, "16c51bf6a209c1b34c7046375886a64c4663e2e32e51f1813678f98953618e00"), looks := false }, kinds := [], alts := [], laidByText := true, laidKinds := [.data, .pinned], laidTests := true, laidLooks := .later }
def GaugeValuesUptoCardSaid : Prop := Claim7.holds Tryd.pinned (.plain (OpenSpec.upto gaugeValuesSpec)) gaugeValuesUptoCard

/-- THE SECOND FORM's CARD OF 'remouldlaw04.GaugeAdds'. -/
def gaugeAddsUptoCard : Claim7 := { stood := { row := gaugeAddsUptoRow, standIns := [], harness := (true, "16c51bf6a209c1b34c7046375886a64c4663e2e32e51f1813678f98953618e00"), looks := false }, kinds := [], alts := [], laidByText := true, laidKinds := [.data, .pinned], laidTests := true, laidLooks := .later }
def GaugeAddsUptoCardSaid : Prop := Claim7.holds Tryd.pinned (.plain (OpenSpec.upto gaugeAddsSpec)) gaugeAddsUptoCard

/-- THE SECOND FORM's CARD OF 'remouldlaw04.GaugeOnce'. -/
def gaugeOnceUptoCard : Claim7 := { stood := { row := gaugeOnceUptoRow, standIns := [], harness := (true, "16c51bf6a209c1b34c7046375886a64c4663e2e32e51f1813678f98953618e00"), looks := false }, kinds := [], alts := [], laidByText := true, laidKinds := [.data, .pinned], laidTests := true, laidLooks := .later }
def GaugeOnceUptoCardSaid : Prop := Claim7.holds Tryd.pinned (.plain (OpenSpec.upto gaugeOnceSpec)) gaugeOnceUptoCard

/-- THE SECOND FORM's CARD OF 'remouldlaw04.GaugeCarried'. -/
def gaugeCarriedUptoCard : Claim7 := { stood := { row := gaugeCarriedUptoRow, standIns := [], harness := (true, "16c51bf6a209c1b34c7046375886a64c4663e2e32e51f1813678f98953618e00"), looks := false }, kinds := [], alts := [], laidByText := true, laidKinds := [.data, .pinned], laidTests := true, laidLooks := .later }
def GaugeCarriedUptoCardSaid : Prop := Claim7.holds Tryd.pinned (.plain (OpenSpec.upto gaugeCarriedSpec)) gaugeCarriedUptoCard

/-- THE SECOND FORM's CARD OF 'remouldlaw04.GaugeSums'. -/
def gaugeSumsUptoCard : Claim7 := { stood := { row := gaugeSumsUptoRow, standIns := [], harness := (true, "16c51bf6a209c1b34c7046375886a64c4663e2e32e51f1813678f98953618e00"), looks := false }, kinds := [], alts := [], laidByText := true, laidKinds := [.data, .pinned], laidTests := true, laidLooks := .later }
def GaugeSumsUptoCardSaid : Prop := Claim7.holds Tryd.pinned (.plain (OpenSpec.upto gaugeSumsSpec)) gaugeSumsUptoCard
end Rows
end Go.Proofs.YtfekggmdhmkemaaDoor
