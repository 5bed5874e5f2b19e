/- The walk of Roots. -/
import Derived.Test.YtodopdfjjgpdeaaSi
namespace Go.Proofs.Ytodopdfjjgpdeaa
open Go.RowKit Go.Shelf
set_option linter.unusedVariables false

/-- The roots below k. -/
def rts (p k : Nat) : List Int := ((List.range k).filter fun g : Nat => rootB p g).map fun g : Nat => (g : Int)
theorem rts_yes (p k : Nat) (h : rootB p k = true) : rts p (k + 1) = rts p k ++ [(k : Int)] := by simp [rts, List.range_succ, h]
theorem rts_no (p k : Nat) (h : rootB p k = false) : rts p (k + 1) = rts p k := by simp [rts, List.range_succ, h]
theorem rts_length (p k : Nat) : (rts p k).length ≤ k := by
  rw [rts, List.length_map]
  exact Nat.le_trans (List.length_filter_le _ _) (by simp)
end Go.Proofs.Ytodopdfjjgpdeaa
