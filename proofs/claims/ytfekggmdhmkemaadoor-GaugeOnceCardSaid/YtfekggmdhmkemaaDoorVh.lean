/- The mathematics of Divide: a norm is 0 at 0 alone; the program's and the reference's nearest numbers are the same. -/
import Derived.Test.YtfekggmdhmkemaaDoorVg
namespace Go.Proofs.YtfekggmdhmkemaaDoor
open Go.RowKit
set_option linter.unusedVariables false
set_option linter.unusedSimpArgs false

theorem norm_ne (y : Int × Int) (h : y ≠ (0, 0)) : normG y ≠ 0 := by
  intro h0
  obtain ⟨a, b⟩ := y
  unfold normG at h0
  simp only at h0
  have h1 : (2 * a + b) * (2 * a + b) = 5 * b * b := by grind
  by_cases hb : b = 0
  · subst hb
    have h2 : a ≠ 0 := fun e => h (by rw [e])
    have := sq_pos a h2
    grind
  · exact five_ne _ b hb h1
/-- k is the whole number nearest to n / d, the smaller one of two. -/
def isNear (n d k : Int) : Prop := 2 * n - d ≤ 2 * d * k ∧ 2 * d * (k - 1) < 2 * n - d
theorem isNear_one (n d k l : Int) (hd : 0 < d) (hk : isNear n d k) (hl : isNear n d l) : k = l := by
  unfold isNear at hk hl
  rcases Int.lt_trichotomy k l with h | h | h
  · have := Int.mul_le_mul_of_nonneg_left (show k ≤ l - 1 by omega) (show 0 ≤ 2 * d by omega); omega
  · exact h
  · have := Int.mul_le_mul_of_nonneg_left (show l ≤ k - 1 by omega) (show 0 ≤ 2 * d by omega); omega
theorem nearP_near (n d : Int) (hd : 0 < d) : isNear n d (nearP n d) := by
  unfold isNear nearP
  have h1 := Int.tmod_add_tdiv_mul (2 * n - d) (2 * d)
  have h2 := Int.tmod_lt_of_pos (2 * n - d) (show 0 < 2 * d by omega)
  have h3 : 0 ≤ 2 * n - d → 0 ≤ (2 * n - d).tmod (2 * d) := fun h => Int.tmod_nonneg _ h
  have h4 : 2 * n - d ≤ 0 → (2 * n - d).tmod (2 * d) ≤ 0 := fun h => by
    have := Int.tmod_nonneg (a := -(2 * n - d)) (2 * d) (by omega)
    rw [Int.neg_tmod] at this; omega
  have h5 : -(2 * d) < (2 * n - d).tmod (2 * d) := by
    have := Int.tmod_lt_of_pos (-(2 * n - d)) (show 0 < 2 * d by omega)
    rw [Int.neg_tmod] at this; omega
  generalize (2 * n - d).tmod (2 * d) = m at *
  generalize (2 * n - d).tdiv (2 * d) = t at *
  have e1 : t * (2 * d) = 2 * d * t := Int.mul_comm _ _
  have e2 : 2 * d * (t + 1) = 2 * d * t + 2 * d := by rw [Int.mul_add, Int.mul_one]
  have e3 : 2 * d * (t - 1) = 2 * d * t - 2 * d := by rw [Int.mul_sub, Int.mul_one]
  have e4 : t + 1 - 1 = t := by omega
  rw [e1] at h1
  split
  · rw [e4, e2]; omega
  · rw [e3]; omega
/-- The reference's nearest number. -/
def refNear (a n : Int) : Int := if n < 2 * (a % n) then a / n + 1 else a / n
theorem refNear_near (a n : Int) (hn : 0 < n) : isNear a n (refNear a n) := by
  unfold isNear refNear
  have h1 := Int.emod_add_mul_ediv a n
  have h2 := Int.emod_lt_of_pos a hn
  have h3 := Int.emod_nonneg a (show n ≠ 0 by omega)
  generalize a % n = r at *
  generalize a / n = q at *
  have e0 : 2 * n * q = 2 * (n * q) := Int.mul_assoc _ _ _
  have e2 : 2 * n * (q + 1) = 2 * (n * q) + 2 * n := by rw [Int.mul_add, Int.mul_one, e0]
  have e3 : 2 * n * (q - 1) = 2 * (n * q) - 2 * n := by rw [Int.mul_sub, Int.mul_one, e0]
  have e4 : q + 1 - 1 = q := by omega
  split
  · rw [e4, e2, e0]; omega
  · rw [e3, e0]; omega
theorem near_eq (a n : Int) (hn : n ≠ 0) : nearG a n = if n < 0 then refNear (-a) (-n) else refNear a n := by
  unfold nearG
  split
  · exact isNear_one _ _ _ _ (by omega) (nearP_near (-a) (-n) (by omega)) (refNear_near (-a) (-n) (by omega))
  · exact isNear_one _ _ _ _ (by omega) (nearP_near a n (by omega)) (refNear_near a n (by omega))
end Go.Proofs.YtfekggmdhmkemaaDoor
