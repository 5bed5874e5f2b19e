/- The walks of the reference's Next, Complete and Start. -/
import Derived.Test.YtodopdfjjgpdeaaWe
import Derived.Test.YtodopdfjjgpdeaaWd
namespace Go.Proofs.Ytodopdfjjgpdeaa
open Go.RowKit Go.Shelf
set_option linter.unusedVariables false
set_option linter.unusedSimpArgs false

/-- What the reference's Next and Complete answer. -/
def FndR (f : Option (List Int)) (e : Ending) (w' : World) : Prop :=
  (f = none ∧ e = .returned (.tuple #[.slice none 0 0, .bool false])) ∨ (∃ x v, f = some x ∧ e = .returned (.tuple #[v, .bool true]) ∧ RdI w' v x)
/-- The first numbers of two lists are the same. -/
def pB (x s : List Int) (j : Nat) : Bool := (List.range j).all fun k => nth x k == nth s k
theorem pB_yes {x s : List Int} {j : Nat} (h : pB x s j = true) (e : nth x j = nth s j) : pB x s (j + 1) = true := by
  unfold pB at h ⊢
  rw [List.range_succ, List.all_append, h]
  simp [e]
theorem pB_no {x s : List Int} {j : Nat} (e : nth x j ≠ nth s j) : pB x s (j + 1) = false := by
  unfold pB
  rw [List.range_succ, List.all_append]
  simp [e]
theorem pB_no' {x s : List Int} {j : Nat} (h : pB x s j = false) : pB x s (j + 1) = false := by
  unfold pB at h ⊢
  rw [List.range_succ, List.all_append, h]
  rfl
theorem pB_all {x s : List Int} (h : s.length ≤ x.length) : pB x s s.length = decide (x.take s.length = s) := by
  rw [Bool.eq_iff_iff, decide_eq_true_eq]
  unfold pB
  simp only [List.all_eq_true, List.mem_range, beq_iff_eq]
  constructor
  · intro hk
    refine nth_ext' _ _ (by rw [List.length_take]; omega) fun k hk' => ?_
    rw [List.length_take] at hk'
    rw [← hk k (by omega)]
    exact nth_take _ _ _ (by omega)
  · intro e k hk
    exact nth_of_take e hk
def startB (l : List Int) (n : Int) : Bool := decide ((l.length : Int) ≤ n) && rowsB n l
end Go.Proofs.Ytodopdfjjgpdeaa
