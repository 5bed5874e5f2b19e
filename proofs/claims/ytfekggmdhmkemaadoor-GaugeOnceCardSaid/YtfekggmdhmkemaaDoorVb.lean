/- The walks of Product and of the reference's product; the law GaugeProducts. -/
import Derived.Test.YtfekggmdhmkemaaDoorVa
namespace Go.Proofs.YtfekggmdhmkemaaDoor
open Go.RowKit
set_option linter.unusedVariables false
set_option linter.unusedSimpArgs false

def prodV (x y : Int × Int) : Int × Int := if numB x.1 x.2 = true ∧ numB y.1 y.2 = true then nofV (timesG x y) else (0, 0)
def prodE (x y : Int × Int) : Int := if numB x.1 x.2 = true ∧ numB y.1 y.2 = true then nofE (timesG x y) else 2
end Go.Proofs.YtfekggmdhmkemaaDoor
