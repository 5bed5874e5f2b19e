/- The walk of the reference's quotient. -/
import Derived.Test.YtioaopmoljoieaaDoorVi
namespace Go.Proofs.YtioaopmoljoieaaDoor
open Go.RowKit
set_option linter.unusedVariables false
set_option linter.unusedSimpArgs false

end Go.Proofs.YtioaopmoljoieaaDoor
