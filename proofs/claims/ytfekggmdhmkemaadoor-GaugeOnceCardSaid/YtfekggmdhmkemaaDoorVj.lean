/- The walk of the reference's quotient. -/
import Derived.Test.YtfekggmdhmkemaaDoorVi
namespace Go.Proofs.YtfekggmdhmkemaaDoor
open Go.RowKit
set_option linter.unusedVariables false
set_option linter.unusedSimpArgs false

end Go.Proofs.YtfekggmdhmkemaaDoor
