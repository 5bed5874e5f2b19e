/- The law's brief; the reference's Side. -/
import Derived.Test.YtkbidgbnhninnaaBv
namespace Go.Proofs.Ytkbidgbnhninnaa
open Go.RowKit Go.Shelf
set_option linter.unusedVariables false
set_option linter.unusedSimpArgs false

def briefS (s : ByteArray) : ByteArray := if s.size ≤ 13 then s else s.extract 0 13
theorem brief_size (s : ByteArray) : (briefS s).size ≤ 13 := by
  unfold briefS
  split
  · assumption
  · rw [ByteArray.size_extract]; omega
end Go.Proofs.Ytkbidgbnhninnaa
