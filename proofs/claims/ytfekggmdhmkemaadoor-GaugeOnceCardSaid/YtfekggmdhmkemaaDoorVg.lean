/- The walks of Floor and of the reference's floor, norm and mate; the law GaugeFloors. -/
import Derived.Test.YtfekggmdhmkemaaDoorVf
namespace Go.Proofs.YtfekggmdhmkemaaDoor
open Go.RowKit
set_option linter.unusedVariables false
set_option linter.unusedSimpArgs false

theorem root_small (r : Nat) (b : Int) (hb : sm 1000000 b) (h1 : (r : Int) * r ≤ 5 * b * b) : r ≤ 2236068 := by
  have hbb := sm_mul _ _ _ _ hb hb (by decide) (by decide)
  unfold sm at hbb
  rw [Int.mul_assoc] at h1
  rcases Nat.lt_or_ge 2236068 r with h | h
  · have h2 := Nat.mul_le_mul h h
    have h3 : ((r * r : Nat) : Int) = (r : Int) * r := Int.natCast_mul _ _
    omega
  · exact h
theorem flr_in (a b : Int) (r : Nat) (ha : sm 1000000 a) (hb : sm 1000000 b) (hr : r ≤ 2236068) : -2700000 ≤ flr a b r ∧ flr a b r ≤ 2700000 := by
  unfold flr sm at *
  split <;> omega
end Go.Proofs.YtfekggmdhmkemaaDoor
