/- The walks of Power and of the reference's power; the law GaugePowers. -/
import Derived.Test.YtahkoihlpkaohaaDoorVb
namespace Go.Proofs.YtahkoihlpkaohaaDoor
open Go.RowKit
set_option linter.unusedVariables false
set_option linter.unusedSimpArgs false

theorem Power_far (k : Int) (h : k < -25 ∨ 25 < k) (w : World) :
    Calls Tryd.prog 20 #[.int .i64 k] w fun e w' => e = .returned (.tuple #[.agg (gv (0, 0)), .int .i64 2]) ∧ Keeps w w' := by
  have r0 : At (w.alloc (.cells (gv (0, 0)) 23)) w.heap.size 23 (gv (0, 0)) := At.new w _ _
  have k0 : Keeps w (w.alloc (.cells (gv (0, 0)) 23)) := Keeps.alloc (Below.refl _ _) _
  by_cases h1 : k < -25
  · have d1 : decide (k < -25) = true := by simpa using h1
    clear h
    go_enter Tryd.func20, Tryd.ntmps20
    go_wp2_with ((refine wpList_store_row rfl 23 _ _ rfl _ (gv (0, 0)) rfl rfl 23 (gv (0, 0)) (by assumption) (sizeV _) rfl (oneV _) ?_))
    exact bodyPost_ret (results_row_tmp Tryd.results20 _ _ w.heap.size _ _ _ rfl (r0.row _) Tryd.underlying23 rfl (sizeV _)) rfl ⟨rfl, below_row k0 (Nat.le_refl _) _⟩
  · have d1 : decide (k < -25) = false := by simpa using h1
    have h2 : 25 < k := by omega
    have d2 : decide (25 < k) = true := by simpa using h2
    clear h
    go_enter Tryd.func20, Tryd.ntmps20
    go_wp2_with ((refine wpList_store_row rfl 23 _ _ rfl _ (gv (0, 0)) rfl rfl 23 (gv (0, 0)) (by assumption) (sizeV _) rfl (oneV _) ?_))
    exact bodyPost_ret (results_row_tmp Tryd.results20 _ _ w.heap.size _ _ _ rfl (r0.row _) Tryd.underlying23 rfl (sizeV _)) rfl ⟨rfl, below_row k0 (Nat.le_refl _) _⟩
theorem Power_c (k : Int) (h1 : -25 ≤ k) (h2 : k ≤ 25) (w : World) :
    Calls Tryd.prog 20 #[.int .i64 k] w fun e w' => e = .returned (.tuple #[.agg (gv (pw k)), .int .i64 0]) ∧ Keeps w w' := by
  have r0 : At (w.alloc (.cells (gv (0, 0)) 23)) w.heap.size 23 (gv (0, 0)) := At.new w _ _
  have k0 : Keeps w (w.alloc (.cells (gv (0, 0)) 23)) := Keeps.alloc (Below.refl _ _) _
  have d1 : decide (k < -25) = false := by simp; omega
  have d2 : decide (25 < k) = false := by simp; omega
  have p1 := fun z => powerOf_c k (by omega) (by omega) z
  clear h1 h2
  generalize pw k = v at *
  go_enter Tryd.func20, Tryd.ntmps20
  go_wp2_with (first
    | (refine wpList_store_row rfl 23 _ _ rfl _ (gv v) rfl rfl 23 (gv (0, 0)) (by assumption) (sizeV _) rfl (oneV _) ?_)
    | (go_at_call 38; refine (p1 _).mono ?_; rintro e w1 ⟨rfl, b1⟩; have r1 := r0.later b1))
  exact bodyPost_ret (results_row_tmp Tryd.results20 _ _ w.heap.size _ _ _ rfl (r1.row _) Tryd.underlying23 rfl (sizeV _)) rfl ⟨rfl, below_row (Keeps.next k0 b1) (Nat.le_refl _) _⟩

end Go.Proofs.YtahkoihlpkaohaaDoor
