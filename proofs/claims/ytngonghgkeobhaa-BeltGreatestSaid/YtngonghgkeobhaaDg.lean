/- The reference's Gains. -/
import Derived.Test.YtngonghgkeobhaaDf
import Derived.Test.YtngonghgkeobhaaDe
namespace Go.Proofs.Ytngonghgkeobhaa
open Go.RowKit Go.Shelf
set_option linter.unusedVariables false
set_option linter.unusedSimpArgs false

theorem infoI9 : (Try.prog.info? 3).map (fun i => (i.zero, i.size, i.bytes)) = some (some (.int .i64 0), 1, 8) := by kernel_rfl
def dgn (l : List Ed) (S : Nat) (i : Nat) : Int := valL (flp S i) l - valL S l
end Go.Proofs.Ytngonghgkeobhaa
