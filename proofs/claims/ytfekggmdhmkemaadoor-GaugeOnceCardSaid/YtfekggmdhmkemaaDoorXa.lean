/- The mathematics of the ladder's positions, and the walk of the reference's Rung. -/
import Derived.Test.YtfekggmdhmkemaaDoorGq
import Derived.Test.YtfekggmdhmkemaaDoorWd
namespace Go.Proofs.YtfekggmdhmkemaaDoor
open Go.RowKit
set_option linter.unusedVariables false
set_option linter.unusedSimpArgs false

theorem posP_rec_all : ((List.range 36).all fun m : Nat => posP ((m : Int) + 2) == posP ((m : Int) + 1) + posP (m : Int)) = true := by decide +kernel
theorem posP_rec (m : Nat) (h : m < 36) : posP ((m : Int) + 2) = posP ((m : Int) + 1) + posP (m : Int) := by
  have := List.all_eq_true.1 posP_rec_all m (List.mem_range.2 h)
  simpa using this
theorem posP_mono_all : ((List.range 40).all fun n : Nat => (List.range (n + 1)).all fun m : Nat => decide (posP (m : Int) ≤ posP (n : Int))) = true := by decide +kernel
theorem posP_mono (m n : Nat) (h : m ≤ n) (hn : n < 40) : posP (m : Int) ≤ posP (n : Int) := by
  have := List.all_eq_true.1 (List.all_eq_true.1 posP_mono_all n (List.mem_range.2 hn)) m (List.mem_range.2 (by omega))
  simpa using this
theorem posP_24 : (100000 : Int) < posP ((24 : Nat) : Int) := by decide +kernel
theorem posP_32 : (5000000 : Int) < posP ((32 : Nat) : Int) := by decide +kernel
theorem posP_top_all : ((List.range 40).all fun n : Nat => decide (posP (n : Int) ≤ 300000000)) = true := by decide +kernel
theorem posP_top (n : Nat) (h : n < 40) : posP (n : Int) ≤ 300000000 := by
  have := List.all_eq_true.1 posP_top_all n (List.mem_range.2 h)
  simpa using this
theorem rgJ_skip (k : Int) (m : Nat) (hm : m ≤ 40) (h : ∀ e : Nat, m ≤ e → e < 40 → k < posP (e : Int)) : ∀ j, j ≤ 40 - m → rgJ k j = (k, (0, 0))
  | 0, _ => by simp [rgJ]
  | j + 1, hj => by
    rw [rgJ_succ k j (by omega), rgJ_skip k m hm h j (by omega)]
    have := h (39 - j) (by omega) (by omega)
    rw [show ((39 - j : Nat) : Int) = 39 - (j : Int) by omega] at this
    unfold rgS
    rw [if_neg (by simp only; omega)]
/-- The reference's weights: the positions of the first m powers. -/
def wts (m : Nat) : List Int := (List.range m).map fun i : Nat => posP (i : Int)
theorem wts_length (m : Nat) : (wts m).length = m := by simp [wts]
theorem wts_succ (m : Nat) : wts (m + 1) = wts m ++ [posP (m : Int)] := by simp [wts, List.range_succ]
theorem wts_nth (m i : Nat) (h : i < m) : nth (wts m) i = posP (i : Int) := by simp [nth, wts, h]
theorem wts_two : wts 2 = [1, 2] := by decide +kernel
def slen : Value → Nat
  | .slice _ n _ => n
  | _ => 0
end Go.Proofs.YtfekggmdhmkemaaDoor
