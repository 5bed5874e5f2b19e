/- The law of Exchanges. -/
import Derived.Test.YteffkcnlipdgaaaDoorVg
namespace Go.Proofs.YteffkcnlipdgaaaDoor
open Go.RowKit
set_option linter.unusedVariables false
set_option linter.unusedSimpArgs false

theorem eq3_self (a b c : Int) (w : World) : (Op.equalIn 10000 22 (.agg #[.int .i64 a, .int .i64 b, .int .i64 c]) (.agg #[.int .i64 a, .int .i64 b, .int .i64 c])).run Tryd.prog w = .ok true w := by
  have := eq3_arr a b c a b c w
  rw [show eq3 a b c a b c = true by simp [eq3]] at this
  exact this
end Go.Proofs.YteffkcnlipdgaaaDoor
