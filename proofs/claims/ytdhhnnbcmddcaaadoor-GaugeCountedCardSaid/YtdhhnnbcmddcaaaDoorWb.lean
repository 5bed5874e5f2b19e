/- The law GaugeWhole. -/
import Derived.Test.YtdhhnnbcmddcaaaDoorWa
import Derived.Test.YtdhhnnbcmddcaaaDoorVg
namespace Go.Proofs.YtdhhnnbcmddcaaaDoor
open Go.RowKit
set_option linter.unusedVariables false
set_option linter.unusedSimpArgs false

theorem flr_plus (a b k : Int) (r : Nat) : flr (a + k) b r = flr a b r + k := by unfold flr; split <;> omega
theorem flr_near (a b : Int) (r : Nat) (ha : sm 250000 a) (hb : sm 250000 b) (h1 : (r : Int) * r ≤ 5 * b * b) : -1000000 ≤ flr a b r ∧ flr a b r < 1000000 - 1 := by
  have hbb := sm_mul _ _ _ _ hb hb (by decide) (by decide)
  have hr : r ≤ 559017 := by
    unfold sm at hbb
    rw [Int.mul_assoc] at h1
    rcases Nat.lt_or_ge 559017 r with h | h
    · have h2 := Nat.mul_le_mul h h
      have h3 : ((r * r : Nat) : Int) = (r : Int) * r := Int.natCast_mul _ _
      omega
    · exact h
  unfold flr sm at *
  split <;> omega
/-- What Compare answers at numbers. -/
theorem Compare_num (x y : Int × Int) (hx : numB x.1 x.2 = true) (hy : numB y.1 y.2 = true) (w : World) :
    Calls Tryd.prog 19 #[.agg (gv x), .agg (gv y)] w fun e w' => e = .returned (.tuple #[.int .i64 (sgn (x.1 - y.1) (x.2 - y.2)), .int .i64 0]) ∧ Keeps w w' := by
  have h := Compare_c x y w
  rw [cmpN, cmpE, if_pos ⟨hx, hy⟩, if_pos ⟨hx, hy⟩] at h
  exact h
end Go.Proofs.YtdhhnnbcmddcaaaDoor
