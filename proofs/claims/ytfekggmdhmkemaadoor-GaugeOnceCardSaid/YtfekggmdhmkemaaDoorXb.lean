/- The walk of the reference's Rung. -/
import Derived.Test.YtfekggmdhmkemaaDoorXa
import Derived.Test.YtfekggmdhmkemaaDoorUa
import Derived.StillTailTactics
namespace Go.Proofs.YtfekggmdhmkemaaDoor
open Go.RowKit
set_option linter.unusedVariables false
set_option linter.unusedSimpArgs false

theorem infoI : (Tryd.prog.info? 3).map (fun i => (i.zero, i.size, i.bytes)) = some (some (.int .i64 0), 1, 8) := by kernel_rfl
theorem rgS_yes (s : Int × (Int × Int)) (e : Int) (h : posP e ≤ s.1) : rgS s e = (s.1 - posP e, (s.2.1 + (pw e).1, s.2.2 + (pw e).2)) := by unfold rgS; rw [if_pos h]
theorem rgS_no (s : Int × (Int × Int)) (e : Int) (h : ¬ posP e ≤ s.1) : rgS s e = s := by unfold rgS; rw [if_neg h]
end Go.Proofs.YtfekggmdhmkemaaDoor
