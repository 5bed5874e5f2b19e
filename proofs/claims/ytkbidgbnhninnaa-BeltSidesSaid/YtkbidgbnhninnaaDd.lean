/- The reference's Flip. -/
import Derived.Test.YtkbidgbnhninnaaDc
namespace Go.Proofs.Ytkbidgbnhninnaa
open Go.RowKit Go.Shelf
set_option linter.unusedVariables false
set_option linter.unusedSimpArgs false

end Go.Proofs.Ytkbidgbnhninnaa
