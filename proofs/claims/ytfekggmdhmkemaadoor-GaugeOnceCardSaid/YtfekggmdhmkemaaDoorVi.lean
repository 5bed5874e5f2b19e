/- The walk of the reference's nearest whole number. -/
import Derived.Test.YtfekggmdhmkemaaDoorVh
namespace Go.Proofs.YtfekggmdhmkemaaDoor
open Go.RowKit
set_option linter.unusedVariables false
set_option linter.unusedSimpArgs false

theorem tdiv_two (a n : Int) (hn : 0 < n) : a / n ≤ a.tdiv n ∧ a.tdiv n ≤ a / n + 1 := by
  have h1 := Int.tmod_add_tdiv_mul a n
  have h2 := Int.tmod_lt_of_pos a hn
  have h3 : 0 ≤ a → 0 ≤ a.tmod n := fun h => Int.tmod_nonneg _ h
  have h4 : a ≤ 0 → a.tmod n ≤ 0 := fun h => by
    have := Int.tmod_nonneg (a := -a) n (by omega)
    rw [Int.neg_tmod] at this; omega
  have h5 : -n < a.tmod n := by
    have := Int.tmod_lt_of_pos (-a) hn
    rw [Int.neg_tmod] at this; omega
  have g1 := Int.emod_add_mul_ediv a n
  have g2 := Int.emod_lt_of_pos a hn
  have g3 := Int.emod_nonneg a (show n ≠ 0 by omega)
  generalize a.tmod n = m at *
  generalize a.tdiv n = t at *
  generalize a % n = r at *
  generalize a / n = q at *
  rw [Int.mul_comm t n] at h1
  constructor
  · rcases Int.lt_or_le t q with h | h
    · have := Int.mul_le_mul_of_nonneg_left (show t ≤ q - 1 by omega) (show 0 ≤ n by omega)
      rw [Int.mul_sub, Int.mul_one] at this; omega
    · exact h
  · rcases Int.lt_or_le (q + 1) t with h | h
    · have := Int.mul_le_mul_of_nonneg_left (show q + 2 ≤ t by omega) (show 0 ≤ n by omega)
      rw [Int.mul_add] at this; omega
    · exact h
end Go.Proofs.YtfekggmdhmkemaaDoor
