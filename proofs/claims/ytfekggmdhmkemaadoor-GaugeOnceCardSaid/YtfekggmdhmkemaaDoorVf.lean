/- The walks of sort.Search, Floor and of the reference's root and floor. -/
import Derived.Test.YtfekggmdhmkemaaDoorVd
namespace Go.Proofs.YtfekggmdhmkemaaDoor
open Go.RowKit
set_option linter.unusedVariables false
set_option linter.unusedSimpArgs false

theorem root_ex (n : Nat) : ∃ r : Nat, r * r ≤ n ∧ n < (r + 1) * (r + 1) := by
  induction n with
  | zero => exact ⟨0, by decide, by decide⟩
  | succ n ih =>
    obtain ⟨r, h1, h2⟩ := ih
    by_cases h : n + 1 < (r + 1) * (r + 1)
    · exact ⟨r, by omega, h⟩
    · refine ⟨r + 1, by omega, ?_⟩
      have : (r + 1 + 1) * (r + 1 + 1) = (r + 1) * (r + 1) + (r + 1) + (r + 1) + 1 := by grind
      omega
/-- The floor of a + b w, by the root r of 5 b b. -/
def flr (a b : Int) (r : Nat) : Int := if b < 0 then a - (-b + r) / 2 - 1 else a + (b + r) / 2
theorem flr_sgn (a b j : Int) (r : Nat) (h1 : (r : Int) * r ≤ 5 * b * b) (h2 : 5 * b * b < ((r : Int) + 1) * (r + 1)) : sgn (a - j) b < 0 ↔ flr a b r < j := by
  rw [← refSgn_eq]
  have f5 := five_ne r b
  have hp : ∀ p : Int, (0 ≤ p → p ≤ r → p * p ≤ r * r) ∧ (p ≤ 0 → -p ≤ r → p * p ≤ r * r) ∧ (0 ≤ p → r + 1 ≤ p → ((r : Int) + 1) * (r + 1) ≤ p * p) ∧ (p ≤ 0 → r + 1 ≤ -p → ((r : Int) + 1) * (r + 1) ≤ p * p) := fun p =>
    ⟨fun h h' => Int.mul_le_mul h' h' h (by omega), fun h h' => by rw [← Int.neg_mul_neg p p]; exact Int.mul_le_mul h' h' (by omega) (by omega),
      fun h h' => Int.mul_le_mul h' h' (by omega) h, fun h h' => by rw [← Int.neg_mul_neg p p]; exact Int.mul_le_mul h' h' (by omega) (by omega)⟩
  have hp := hp (2 * (a - j) + b)
  unfold refSgn flr
  have zb : b = 0 → 5 * b * b = 0 := by rintro rfl; rfl
  have r0 : r = 0 ∨ 0 < (r : Int) * r := by
    rcases Nat.eq_zero_or_pos r with h | h
    · exact .inl h
    · exact .inr (Int.mul_pos (by omega) (by omega))
  have r1 : (r : Int) * r + r + r + 1 = ((r : Int) + 1) * (r + 1) := by grind
  generalize 5 * b * b = t at *
  generalize (r : Int) * r = s at *
  generalize ((r : Int) + 1) * (r + 1) = s1 at *
  generalize hpp : 2 * (a - j) + b = p at *
  generalize p * p = q at *
  (repeat' split) <;> omega
end Go.Proofs.YtfekggmdhmkemaaDoor
