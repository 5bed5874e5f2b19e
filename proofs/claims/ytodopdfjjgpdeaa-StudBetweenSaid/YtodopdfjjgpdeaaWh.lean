/- The law Items. -/
import Derived.Test.YtodopdfjjgpdeaaWg
namespace Go.Proofs.Ytodopdfjjgpdeaa
open Go.RowKit Go.Shelf
set_option linter.unusedVariables false
set_option linter.unusedSimpArgs false

theorem ints_eq (v v' : Value) (a : List Int) (w : World) (ha : RdI w v a) (hb : RdI w v' a) :
    Calls Try.prog 15 #[v, v'] w fun e w' => e = .returned (.bool true) ∧ Keeps w w' := by
  refine (ints_c v v' a a w ha hb).mono ?_
  rintro e w' ⟨h, m, rfl⟩
  rw [decide_eq_true rfl] at h
  exact ⟨h, below_drewN (Below.refl _ _)⟩
end Go.Proofs.Ytodopdfjjgpdeaa
