/- The walk of the reference's quotient. -/
import Derived.Test.YtdhhnnbcmddcaaaDoorVi
namespace Go.Proofs.YtdhhnnbcmddcaaaDoor
open Go.RowKit
set_option linter.unusedVariables false
set_option linter.unusedSimpArgs false

end Go.Proofs.YtdhhnnbcmddcaaaDoor
